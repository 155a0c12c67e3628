/-
  The answers that the document gives of digraphs are there. Not a statement of the seat.
-/
import Derived.Test.YtpgfkggfgkafjaaHead14
import Derived.Deep.DeepCutAuto
namespace Go.Proofs.Ytpgfkggfgkafjaa.Gr
open Go.ChangeShapes Go.WideShapes Go.ChangeAt Go.RowKit Base Ro F Dl Ln Rf
theorem joinG3 {α β γ : Type} {P : Prop} (J : α → β → γ → Prop) (G : α → β → γ → Prop) (h1 : (∀ x y u, J x y u → G x y u) → P) (h2 : ∀ x y u, J x y u → G x y u) : P := h1 h2
theorem int_at1 {z : Int} {X : World} {g : Nat} (h : X.heap[g]? = some (.cells #[.int .i64 z] 3)) : Lst.Ints 0 X (.slice (some ⟨g, 0, none⟩) 1 1) [z] := by
  refine .inr ⟨_, 0, 1, rfl, Nat.zero_le _, heap_lt h, by simp, fun k hk => ?_⟩
  match k, hk with
  | 0, _ => simp [World.cell?, h]
theorem int_lit1 (z : Int) (X : World) : Lst.Ints 0 (X.alloc (.cells #[.int .i64 z] 3)) (.slice (some ⟨X.heap.size, 0, none⟩) 1 1) [z] := int_at1 (heap_alloc_at _ _ _ rfl)
theorem arc_at2 {X : World} {g : Nat} (x y : Arc) (h : X.heap[g]? = some (.cells #[.int .i64 x.fr, .int .i64 x.to, .int .i64 x.kd, .int .i64 x.lb, .int .i64 y.fr, .int .i64 y.to, .int .i64 y.kd, .int .i64 y.lb] 29)) : Arcs 0 X (.slice (some ⟨g, 0, none⟩) 2 2) [x, y] := by
  refine .inr ⟨_, 0, 2, rfl, Nat.zero_le _, heap_lt h, by simp, fun k hk => ?_⟩
  match k, hk with
  | 0, _ => simp [World.cell?, h]
  | 1, _ => simp [World.cell?, h]
theorem arc_lit2 (X : World) : Arcs 0 (X.alloc (.cells #[.int .i64 0, .int .i64 1, .int .i64 2, .int .i64 5, .int .i64 0, .int .i64 1, .int .i64 3, .int .i64 4] 29)) (.slice (some ⟨X.heap.size, 0, none⟩) 2 2) [⟨0, 1, 2, 5⟩, ⟨0, 1, 3, 4⟩] := arc_at2 _ _ (heap_alloc_at _ _ _ rfl)
set_option maxHeartbeats 8000000 in
set_option maxRecDepth 100000 in
theorem lives_gr (w0 : World) : Calls Try.prog 6 #[] w0 (TruP w0) := by
  go_enter Try.func6, Try.ntmps6
  go_wp2_with fail
  refine (new_q 2 w0).mono ?_
  rintro e w1 ⟨b, nbs, rfl, hq, h1, h2⟩
  rw [show roomL 2 = 2 by decide] at hq
  have H1 := Lib.hid (And.intro hq (And.intro h1 h2))
  clear hq h1 h2
  go_upto_region 5 with fail
  obtain ⟨ga, hga⟩ : ∃ ga, ga = w1.heap.size := ⟨_, rfl⟩
  obtain ⟨gc, hgc⟩ : ∃ gc, gc = w1.heap.size + 1 := ⟨_, rfl⟩
  obtain ⟨X, hX⟩ : ∃ X, X = (w1.alloc (.cells #[.int .i64 0, .int .i64 1, .int .i64 2, .int .i64 5] 29)).alloc (.cells #[.int .i64 0, .int .i64 1, .int .i64 3, .int .i64 4] 29) := ⟨_, rfl⟩
  have LGc : Hid (∀ q Z, LG w0 b nbs ga gc ⟨0, 1, 2, 5⟩ ⟨0, 1, 3, 4⟩ q Z → ((Z.cell? ⟨ga, 0, none⟩ = some (.int .i64 0) ∧ Z.cell? ⟨ga, 1, none⟩ = some (.int .i64 1) ∧ Z.cell? ⟨ga, 2, none⟩ = some (.int .i64 2) ∧ Z.cell? ⟨ga, 3, none⟩ = some (.int .i64 5)) ∧ Z.cell? ⟨gc, 0, none⟩ = some (.int .i64 0) ∧ Z.cell? ⟨gc, 1, none⟩ = some (.int .i64 1) ∧ Z.cell? ⟨gc, 2, none⟩ = some (.int .i64 3) ∧ Z.cell? ⟨gc, 3, none⟩ = some (.int .i64 4))) := Lib.hid fun q Z h => by
    obtain ⟨c1, c2⟩ := h.cells
    exact ⟨c1, c2⟩
  obtain ⟨D, hD⟩ : ∃ D, D = X.drew := ⟨_, rfl⟩
  have H2 : Hid (LG w0 b nbs ga gc ⟨0, 1, 2, 5⟩ ⟨0, 1, 3, 4⟩ [] D) := Lib.hid (by
    have hb : Below w1.heap.size w1 X := by rw [hX]; exact ((Below.refl _ _).alloc (Nat.le_refl _) _).alloc (by simp) _
    have h : LG w0 b nbs ga gc ⟨0, 1, 2, 5⟩ ⟨0, 1, 3, 4⟩ [] X := ⟨⟨H1.out.1.below hb, H1.out.2.1, H1.out.2.2.trans (hb.mono H1.out.2.2.size)⟩, by rw [hga, hX]; exact heap_alloc_lt _ _ _ _ (heap_alloc_at _ _ _ rfl), by rw [hgc, hX]; exact heap_alloc_at _ _ _ (by simp)⟩
    rw [hD]
    exact h.below (below_drewN (Below.refl _ _) 1))
  rw [← hX, ← hgc, ← hga]
  clear H1 hga hgc hX
  refine wp_region_held_drew (S := fun Z => (Z.cell? ⟨ga, 0, none⟩ = some (.int .i64 0) ∧ Z.cell? ⟨ga, 1, none⟩ = some (.int .i64 1) ∧ Z.cell? ⟨ga, 2, none⟩ = some (.int .i64 2) ∧ Z.cell? ⟨ga, 3, none⟩ = some (.int .i64 5)) ∧ Z.cell? ⟨gc, 0, none⟩ = some (.int .i64 0) ∧ Z.cell? ⟨gc, 1, none⟩ = some (.int .i64 1) ∧ Z.cell? ⟨gc, 2, none⟩ = some (.int .i64 3) ∧ Z.cell? ⟨gc, 3, none⟩ = some (.int .i64 4)) (by kernel_rfl) (hD ▸ LGc.out _ _ H2.out) (fun hHeld0 => ?_)
  rw [← hD] at hHeld0 ⊢
  clear hD
  refine wpAnyH_take (i := 0) (v := ?_) rfl (by as_aux_lemma => kernel_rfl) (by as_aux_lemma => kernel_rfl) (by as_aux_lemma => kernel_rfl) (fun _ _ _ h => h) (Or.inl ⟨by as_aux_lemma => rfl, ?ya0⟩) (by assumption) ?qa0
  case ya0 => (intro wz hSw; (try dsimp only at hSw); go_simp <;> with_reducible rfl)
  try simp only [Act.put, List.getElem_toArray, List.getElem_cons_zero, List.setIfInBounds_toArray, List.set_cons_zero, List.set_cons_succ]
  refine wpAnyH_take (i := 1) (v := ?_) rfl (by as_aux_lemma => kernel_rfl) (by as_aux_lemma => kernel_rfl) (by as_aux_lemma => kernel_rfl) (fun _ _ _ h => h) (Or.inl ⟨by as_aux_lemma => rfl, ?ya1⟩) (by assumption) ?qa1
  case ya1 => (intro wz hSw; (try dsimp only at hSw); go_simp <;> with_reducible rfl)
  try simp only [Act.put, List.getElem_toArray, List.getElem_cons_zero, List.getElem_cons_succ, List.setIfInBounds_toArray, List.set_cons_zero, List.set_cons_succ]
  refine wpAnyH_take (i := 3) (v := ?_) rfl (by as_aux_lemma => kernel_rfl) (by as_aux_lemma => kernel_rfl) (by as_aux_lemma => kernel_rfl) (fun _ _ _ h => h) (Or.inl ⟨by as_aux_lemma => rfl, ?ya3⟩) (by assumption) ?qa3
  case ya3 => (intro wz hSw; (try dsimp only at hSw); go_simp <;> with_reducible rfl)
  try simp only [Act.put, List.getElem_toArray, List.getElem_cons_zero, List.getElem_cons_succ, List.setIfInBounds_toArray, List.set_cons_zero, List.set_cons_succ]
  refine wpAnyH_take (i := 4) (v := ?_) rfl (by as_aux_lemma => kernel_rfl) (by as_aux_lemma => kernel_rfl) (by as_aux_lemma => kernel_rfl) (fun _ _ _ h => h) (Or.inl ⟨by as_aux_lemma => rfl, ?ya4⟩) (by assumption) ?qa4
  case ya4 => (intro wz hSw; (try dsimp only at hSw); go_simp <;> with_reducible rfl)
  try simp only [Act.put, List.getElem_toArray, List.getElem_cons_zero, List.getElem_cons_succ, List.setIfInBounds_toArray, List.set_cons_zero, List.set_cons_succ]
  refine wpAnyH_take (i := 6) (v := ?_) rfl (by as_aux_lemma => kernel_rfl) (by as_aux_lemma => kernel_rfl) (by as_aux_lemma => kernel_rfl) (fun _ _ _ h => h) (Or.inl ⟨by as_aux_lemma => rfl, ?ya6⟩) (by assumption) ?qa6
  case ya6 => (intro wz hSw; (try dsimp only at hSw); go_simp <;> with_reducible rfl)
  try simp only [Act.put, List.getElem_toArray, List.getElem_cons_zero, List.getElem_cons_succ, List.setIfInBounds_toArray, List.set_cons_zero, List.set_cons_succ]
  refine wpAnyH_take (i := 7) (v := ?_) rfl (by as_aux_lemma => kernel_rfl) (by as_aux_lemma => kernel_rfl) (by as_aux_lemma => kernel_rfl) (fun _ _ _ h => h) (Or.inl ⟨by as_aux_lemma => rfl, ?ya7⟩) (by assumption) ?qa7
  case ya7 => (intro wz hSw; (try dsimp only at hSw); go_simp <;> with_reducible rfl)
  try simp only [Act.put, List.getElem_toArray, List.getElem_cons_zero, List.getElem_cons_succ, List.setIfInBounds_toArray, List.set_cons_zero, List.set_cons_succ]
  refine wpAnyH_ready (rs := [2]) (by as_aux_lemma => kernel_rfl) (by simp) ?_
  refine AllReadyH.cons rfl (fun K hK => ?_) AllReadyH.nil
  go_simp
  refine (lg_add (q := []) (q' := [⟨0, 1, 3, 4⟩]) H2.out ⟨0, 1, 3, 4⟩ 0 (by decide +kernel) (by decide +kernel) (by simp)).mono ?_
  rintro e u11 ⟨rfl, H11⟩
  refine hK.out _ _ (LGc.out _ _ H11.out) (fun hHeld11 => ?_)
  clear hK K
  try simp only [Act.put, List.getElem_toArray, List.getElem_cons_zero, List.getElem_cons_succ, List.setIfInBounds_toArray, List.set_cons_zero, List.set_cons_succ]
  refine wpAnyH_ready (rs := [5]) (by as_aux_lemma => kernel_rfl) (by simp) ?_
  refine AllReadyH.cons rfl (fun K hK => ?_) AllReadyH.nil
  go_simp
  refine (lg_add (q := [⟨0, 1, 3, 4⟩]) (q' := [⟨0, 1, 2, 5⟩, ⟨0, 1, 3, 4⟩]) H11.out ⟨0, 1, 2, 5⟩ 0 (by decide +kernel) (by decide +kernel) (by simp)).mono ?_
  rintro e u12 ⟨rfl, H12⟩
  refine hK.out _ _ (LGc.out _ _ H12.out) (fun hHeld12 => ?_)
  clear hK K
  try simp only [Act.put, List.getElem_toArray, List.getElem_cons_zero, List.getElem_cons_succ, List.setIfInBounds_toArray, List.set_cons_zero, List.set_cons_succ]
  refine wpAnyH_ready (rs := [8]) (by as_aux_lemma => kernel_rfl) (by simp) ?_
  refine AllReadyH.cons rfl (fun K hK => ?_) AllReadyH.nil
  go_simp
  refine (lg_add (q := [⟨0, 1, 2, 5⟩, ⟨0, 1, 3, 4⟩]) (q' := [⟨0, 1, 2, 5⟩, ⟨0, 1, 3, 4⟩]) H12.out ⟨0, 1, 2, 5⟩ 4 (by decide +kernel) (by decide +kernel) (by simp)).mono ?_
  rintro e u13 ⟨rfl, H13⟩
  refine hK.out _ _ (LGc.out _ _ H13.out) (fun hHeld13 => ?_)
  clear hK K
  try simp only [Act.put, List.getElem_toArray, List.getElem_cons_zero, List.getElem_cons_succ, List.setIfInBounds_toArray, List.set_cons_zero, List.set_cons_succ]
  refine wpAnyH_take (i := 9) (v := ?_) rfl (by as_aux_lemma => kernel_rfl) (by as_aux_lemma => kernel_rfl) (by as_aux_lemma => kernel_rfl) (fun _ _ _ h => h) (Or.inl ⟨by as_aux_lemma => rfl, ?ya9⟩) (by assumption) ?qa9
  case ya9 => (intro wz hSw; (try dsimp only at hSw); go_simp <;> with_reducible rfl)
  try simp only [Act.put, List.getElem_toArray, List.getElem_cons_zero, List.getElem_cons_succ, List.setIfInBounds_toArray, List.set_cons_zero, List.set_cons_succ]
  refine wpAnyH_take (i := 10) (v := ?_) rfl (by as_aux_lemma => kernel_rfl) (by as_aux_lemma => kernel_rfl) (by as_aux_lemma => kernel_rfl) (fun _ _ _ h => h) (Or.inl ⟨by as_aux_lemma => rfl, ?ya10⟩) (by assumption) ?qa10
  case ya10 => (intro wz hSw; (try dsimp only at hSw); go_simp <;> with_reducible rfl)
  try simp only [Act.put, List.getElem_toArray, List.getElem_cons_zero, List.getElem_cons_succ, List.setIfInBounds_toArray, List.set_cons_zero, List.set_cons_succ]
  refine wpAnyH_take (i := 11) (v := ?_) rfl (by as_aux_lemma => kernel_rfl) (by as_aux_lemma => kernel_rfl) (by as_aux_lemma => kernel_rfl) (fun _ _ _ h => h) (Or.inl ⟨by as_aux_lemma => rfl, ?ya11⟩) (by assumption) ?qa11
  case ya11 => (intro wz hSw; (try dsimp only at hSw); go_simp <;> with_reducible rfl)
  try simp only [Act.put, List.getElem_toArray, List.getElem_cons_zero, List.getElem_cons_succ, List.setIfInBounds_toArray, List.set_cons_zero, List.set_cons_succ]
  refine wpAnyH_done (by as_aux_lemma => kernel_rfl) ?_ _
  have H3 := Lib.hid H13.out
  clear hHeld0 hHeld11 hHeld12 H2 H11 H12
  go_wp2_with fail
  refine (lg_add (q := [⟨0, 1, 2, 5⟩, ⟨0, 1, 3, 4⟩]) (q' := [⟨0, 1, 2, 5⟩, ⟨0, 1, 3, 4⟩]) H3.out ⟨0, 2, 1, 0⟩ 1 (by decide +kernel) (by decide +kernel) (by simp)).mono ?_
  rintro e w4 ⟨rfl, H4⟩
  clear H3
  go_wp2_with fail
  refine (lg_drop (q := [⟨0, 1, 2, 5⟩, ⟨0, 1, 3, 4⟩]) (q' := [⟨0, 1, 2, 5⟩, ⟨0, 1, 3, 4⟩]) H4.out ⟨0, 0, 1, 0⟩ 3 (by decide +kernel) (by decide +kernel)).mono ?_
  rintro e w5 ⟨rfl, H5⟩
  clear H4
  go_upto_region 8 with fail
  simp only [List.append_eq, List.cons_append, List.nil_append]
  obtain ⟨D8, hD8⟩ : ∃ D, D = w5.drew := ⟨_, rfl⟩
  have H6 : Hid (LG w0 b nbs ga gc ⟨0, 1, 2, 5⟩ ⟨0, 1, 3, 4⟩ [⟨0, 1, 2, 5⟩, ⟨0, 1, 3, 4⟩] D8) := Lib.hid (by rw [hD8]; exact H5.out.below (below_drewN (Below.refl _ _) 1))
  clear H5
  refine wp_region_held_drew (S := fun Z => (Z.cell? ⟨ga, 0, none⟩ = some (.int .i64 0) ∧ Z.cell? ⟨ga, 1, none⟩ = some (.int .i64 1) ∧ Z.cell? ⟨ga, 2, none⟩ = some (.int .i64 2) ∧ Z.cell? ⟨ga, 3, none⟩ = some (.int .i64 5)) ∧ Z.cell? ⟨gc, 0, none⟩ = some (.int .i64 0) ∧ Z.cell? ⟨gc, 1, none⟩ = some (.int .i64 1) ∧ Z.cell? ⟨gc, 2, none⟩ = some (.int .i64 3) ∧ Z.cell? ⟨gc, 3, none⟩ = some (.int .i64 4)) (by kernel_rfl) (hD8 ▸ LGc.out _ _ H6.out) (fun hHeld0 => ?_)
  rw [← hD8] at hHeld0 ⊢
  clear hD8
  refine wpAnyH_take (i := 0) (v := ?_) rfl (by as_aux_lemma => kernel_rfl) (by as_aux_lemma => kernel_rfl) (by as_aux_lemma => kernel_rfl) (fun _ _ _ h => h) (Or.inl ⟨by as_aux_lemma => rfl, ?yz0⟩) (by assumption) ?qz0
  case yz0 => (intro wz hSw; (try dsimp only at hSw); go_simp <;> with_reducible rfl)
  try simp only [Act.put, List.getElem_toArray, List.getElem_cons_zero, List.setIfInBounds_toArray, List.set_cons_zero, List.set_cons_succ]
  refine wpAnyH_take (i := 1) (v := ?_) rfl (by as_aux_lemma => kernel_rfl) (by as_aux_lemma => kernel_rfl) (by as_aux_lemma => kernel_rfl) (fun _ _ _ h => h) (Or.inl ⟨by as_aux_lemma => rfl, ?yz1⟩) (by assumption) ?qz1
  case yz1 => (intro wz hSw; (try dsimp only at hSw); go_simp <;> with_reducible rfl)
  try simp only [Act.put, List.getElem_toArray, List.getElem_cons_zero, List.getElem_cons_succ, List.setIfInBounds_toArray, List.set_cons_zero, List.set_cons_succ]
  refine wpAnyH_take (i := 2) (v := ?_) rfl (by as_aux_lemma => kernel_rfl) (by as_aux_lemma => kernel_rfl) (by as_aux_lemma => kernel_rfl) (fun _ _ _ h => h) (Or.inl ⟨by as_aux_lemma => rfl, ?yz2⟩) (by assumption) ?qz2
  case yz2 => (intro wz hSw; (try dsimp only at hSw); go_simp <;> with_reducible rfl)
  try simp only [Act.put, List.getElem_toArray, List.getElem_cons_zero, List.getElem_cons_succ, List.setIfInBounds_toArray, List.set_cons_zero, List.set_cons_succ]
  refine wpAnyH_take (i := 3) (v := ?_) rfl (by as_aux_lemma => kernel_rfl) (by as_aux_lemma => kernel_rfl) (by as_aux_lemma => kernel_rfl) (fun _ _ _ h => h) (Or.inl ⟨by as_aux_lemma => rfl, ?yz3⟩) (by assumption) ?qz3
  case yz3 => (intro wz hSw; (try dsimp only at hSw); go_simp <;> with_reducible rfl)
  try simp only [Act.put, List.getElem_toArray, List.getElem_cons_zero, List.getElem_cons_succ, List.setIfInBounds_toArray, List.set_cons_zero, List.set_cons_succ]
  refine wpAnyH_take (i := 4) (v := ?_) rfl (by as_aux_lemma => kernel_rfl) (by as_aux_lemma => kernel_rfl) (by as_aux_lemma => kernel_rfl) (fun _ _ _ h => h) (Or.inl ⟨by as_aux_lemma => rfl, ?yz4⟩) (by assumption) ?qz4
  case yz4 => (intro wz hSw; (try dsimp only at hSw); go_simp <;> with_reducible rfl)
  try simp only [Act.put, List.getElem_toArray, List.getElem_cons_zero, List.getElem_cons_succ, List.setIfInBounds_toArray, List.set_cons_zero, List.set_cons_succ]
  refine wpAnyH_take (i := 5) (v := ?_) rfl (by as_aux_lemma => kernel_rfl) (by as_aux_lemma => kernel_rfl) (by as_aux_lemma => kernel_rfl) (fun _ _ _ h => h) (Or.inl ⟨by as_aux_lemma => rfl, ?yz5⟩) (by assumption) ?qz5
  case yz5 => (intro wz hSw; (try dsimp only at hSw); go_simp <;> with_reducible rfl)
  try simp only [Act.put, List.getElem_toArray, List.getElem_cons_zero, List.getElem_cons_succ, List.setIfInBounds_toArray, List.set_cons_zero, List.set_cons_succ]
  refine wpAnyH_take (i := 6) (v := ?_) rfl (by as_aux_lemma => kernel_rfl) (by as_aux_lemma => kernel_rfl) (by as_aux_lemma => kernel_rfl) (fun _ _ _ h => h) (Or.inl ⟨by as_aux_lemma => rfl, ?yz6⟩) (by assumption) ?qz6
  case yz6 => (intro wz hSw; (try dsimp only at hSw); go_simp <;> with_reducible rfl)
  try simp only [Act.put, List.getElem_toArray, List.getElem_cons_zero, List.getElem_cons_succ, List.setIfInBounds_toArray, List.set_cons_zero, List.set_cons_succ]
  refine wpAnyH_take (i := 7) (v := ?_) rfl (by as_aux_lemma => kernel_rfl) (by as_aux_lemma => kernel_rfl) (by as_aux_lemma => kernel_rfl) (fun _ _ _ h => h) (Or.inl ⟨by as_aux_lemma => rfl, ?yz7⟩) (by assumption) ?qz7
  case yz7 => (intro wz hSw; (try dsimp only at hSw); go_simp <;> with_reducible rfl)
  try simp only [Act.put, List.getElem_toArray, List.getElem_cons_zero, List.getElem_cons_succ, List.setIfInBounds_toArray, List.set_cons_zero, List.set_cons_succ]
  refine wpAnyH_take (i := 8) (v := ?_) rfl (by as_aux_lemma => kernel_rfl) (by as_aux_lemma => kernel_rfl) (by as_aux_lemma => kernel_rfl) (fun _ _ _ h => h) (Or.inl ⟨by as_aux_lemma => rfl, ?yz8⟩) (by assumption) ?qz8
  case yz8 => (intro wz hSw; (try dsimp only at hSw); go_simp <;> with_reducible rfl)
  try simp only [Act.put, List.getElem_toArray, List.getElem_cons_zero, List.getElem_cons_succ, List.setIfInBounds_toArray, List.set_cons_zero, List.set_cons_succ]
  refine wpAnyH_take (i := 9) (v := ?_) rfl (by as_aux_lemma => kernel_rfl) (by as_aux_lemma => kernel_rfl) (by as_aux_lemma => kernel_rfl) (fun _ _ _ h => h) (Or.inl ⟨by as_aux_lemma => rfl, ?yz9⟩) (by assumption) ?qz9
  case yz9 => (intro wz hSw; (try dsimp only at hSw); go_simp <;> with_reducible rfl)
  try simp only [Act.put, List.getElem_toArray, List.getElem_cons_zero, List.getElem_cons_succ, List.setIfInBounds_toArray, List.set_cons_zero, List.set_cons_succ]
  refine wpAnyH_take (i := 10) (v := ?_) rfl (by as_aux_lemma => kernel_rfl) (by as_aux_lemma => kernel_rfl) (by as_aux_lemma => kernel_rfl) (fun _ _ _ h => h) (Or.inl ⟨by as_aux_lemma => rfl, ?yz10⟩) (by assumption) ?qz10
  case yz10 => (intro wz hSw; (try dsimp only at hSw); go_simp <;> with_reducible rfl)
  try simp only [Act.put, List.getElem_toArray, List.getElem_cons_zero, List.getElem_cons_succ, List.setIfInBounds_toArray, List.set_cons_zero, List.set_cons_succ]
  refine wpAnyH_take (i := 11) (v := ?_) rfl (by as_aux_lemma => kernel_rfl) (by as_aux_lemma => kernel_rfl) (by as_aux_lemma => kernel_rfl) (fun _ _ _ h => h) (Or.inl ⟨by as_aux_lemma => rfl, ?yz11⟩) (by assumption) ?qz11
  case yz11 => (intro wz hSw; (try dsimp only at hSw); go_simp <;> with_reducible rfl)
  try simp only [Act.put, List.getElem_toArray, List.getElem_cons_zero, List.getElem_cons_succ, List.setIfInBounds_toArray, List.set_cons_zero, List.set_cons_succ]
  refine wpAnyH_take (i := 12) (v := ?_) rfl (by as_aux_lemma => kernel_rfl) (by as_aux_lemma => kernel_rfl) (by as_aux_lemma => kernel_rfl) (fun _ _ _ h => h) (Or.inl ⟨by as_aux_lemma => rfl, ?yz12⟩) (by assumption) ?qz12
  case yz12 => (intro wz hSw; (try dsimp only at hSw); go_simp <;> with_reducible rfl)
  try simp only [Act.put, List.getElem_toArray, List.getElem_cons_zero, List.getElem_cons_succ, List.setIfInBounds_toArray, List.set_cons_zero, List.set_cons_succ]
  refine wpAnyH_take (i := 13) (v := ?_) rfl (by as_aux_lemma => kernel_rfl) (by as_aux_lemma => kernel_rfl) (by as_aux_lemma => kernel_rfl) (fun _ _ _ h => h) (Or.inl ⟨by as_aux_lemma => rfl, ?yz13⟩) (by assumption) ?qz13
  case yz13 => (intro wz hSw; (try dsimp only at hSw); go_simp <;> with_reducible rfl)
  try simp only [Act.put, List.getElem_toArray, List.getElem_cons_zero, List.getElem_cons_succ, List.setIfInBounds_toArray, List.set_cons_zero, List.set_cons_succ]
  refine wpAnyH_take (i := 14) (v := ?_) rfl (by as_aux_lemma => kernel_rfl) (by as_aux_lemma => kernel_rfl) (by as_aux_lemma => kernel_rfl) (fun _ _ _ h => h) (Or.inl ⟨by as_aux_lemma => rfl, ?yz14⟩) (by assumption) ?qz14
  case yz14 => (intro wz hSw; (try dsimp only at hSw); go_simp <;> with_reducible rfl)
  try simp only [Act.put, List.getElem_toArray, List.getElem_cons_zero, List.getElem_cons_succ, List.setIfInBounds_toArray, List.set_cons_zero, List.set_cons_succ]
  refine wpAnyH_take (i := 15) (v := ?_) rfl (by as_aux_lemma => kernel_rfl) (by as_aux_lemma => kernel_rfl) (by as_aux_lemma => kernel_rfl) (fun _ _ _ h => h) (Or.inl ⟨by as_aux_lemma => rfl, ?yz15⟩) (by assumption) ?qz15
  case yz15 => (intro wz hSw; (try dsimp only at hSw); go_simp <;> with_reducible rfl)
  try simp only [Act.put, List.getElem_toArray, List.getElem_cons_zero, List.getElem_cons_succ, List.setIfInBounds_toArray, List.set_cons_zero, List.set_cons_succ]
  refine wpAnyH_take (i := 16) (v := ?_) rfl (by as_aux_lemma => kernel_rfl) (by as_aux_lemma => kernel_rfl) (by as_aux_lemma => kernel_rfl) (fun _ _ _ h => h) (Or.inl ⟨by as_aux_lemma => rfl, ?yz16⟩) (by assumption) ?qz16
  case yz16 => (intro wz hSw; (try dsimp only at hSw); go_simp <;> with_reducible rfl)
  try simp only [Act.put, List.getElem_toArray, List.getElem_cons_zero, List.getElem_cons_succ, List.setIfInBounds_toArray, List.set_cons_zero, List.set_cons_succ]
  refine wpAnyH_take (i := 17) (v := ?_) rfl (by as_aux_lemma => kernel_rfl) (by as_aux_lemma => kernel_rfl) (by as_aux_lemma => kernel_rfl) (fun _ _ _ h => h) (Or.inl ⟨by as_aux_lemma => rfl, ?yz17⟩) (by assumption) ?qz17
  case yz17 => (intro wz hSw; (try dsimp only at hSw); go_simp <;> with_reducible rfl)
  try simp only [Act.put, List.getElem_toArray, List.getElem_cons_zero, List.getElem_cons_succ, List.setIfInBounds_toArray, List.set_cons_zero, List.set_cons_succ]
  refine wpAnyH_take (i := 18) (v := ?_) rfl (by as_aux_lemma => kernel_rfl) (by as_aux_lemma => kernel_rfl) (by as_aux_lemma => kernel_rfl) (fun _ _ _ h => h) (Or.inl ⟨by as_aux_lemma => rfl, ?yz18⟩) (by assumption) ?qz18
  case yz18 => (intro wz hSw; (try dsimp only at hSw); go_simp <;> with_reducible rfl)
  try simp only [Act.put, List.getElem_toArray, List.getElem_cons_zero, List.getElem_cons_succ, List.setIfInBounds_toArray, List.set_cons_zero, List.set_cons_succ]
  refine wpAnyH_take (i := 19) (v := ?_) rfl (by as_aux_lemma => kernel_rfl) (by as_aux_lemma => kernel_rfl) (by as_aux_lemma => kernel_rfl) (fun _ _ _ h => h) (Or.inl ⟨by as_aux_lemma => rfl, ?yz19⟩) (by assumption) ?qz19
  case yz19 => (intro wz hSw; (try dsimp only at hSw); go_simp <;> with_reducible rfl)
  try simp only [Act.put, List.getElem_toArray, List.getElem_cons_zero, List.getElem_cons_succ, List.setIfInBounds_toArray, List.set_cons_zero, List.set_cons_succ]
  refine joinG3 (fun (x : Value) (p : Option Addr) (u : World) => Lst.Ints 0 u x [1] ∧ Lst.Ints 0 u (.slice p 1 1) [1] ∧ LG w0 b nbs ga gc ⟨0, 1, 2, 5⟩ ⟨0, 1, 3, 4⟩ [⟨0, 1, 2, 5⟩, ⟨0, 1, 3, 4⟩] u) ?Gz20 (fun HJ => ?fz20) ?rz20
  case fz20 =>
    refine wpAnyH_ready (rs := [20, 21]) (by as_aux_lemma => kernel_rfl) (by simp) ?_
    refine AllReadyH.cons rfl (fun K hK => ?bz20) ?cz20
    case bz20 =>
      go_simp
      refine (next_q (q := [⟨0, 1, 2, 5⟩, ⟨0, 1, 3, 4⟩]) H6.out.1.1 (by omega) 4 0).mono ?_
      intro e u101 hp
      obtain ⟨x20, he, hx, hfo, H101, hb⟩ := lg_nums (zs := [1]) H6.out (by simp) ((show sideO (ofA [⟨0, 1, 2, 5⟩, ⟨0, 1, 3, 4⟩] 4) 0 false = [1] by decide +kernel) ▸ hp)
      subst he
      have F20 : Hid (Lst.Ints 0 u101 x20 [1]) := Lib.hid hx
      have hb101 := Lib.hid hb
      clear hp hx hb hfo
      refine hK.out _ _ (LGc.out _ _ H101.out) (fun hHeld101 => ?_)
      clear hK K
      try simp only [Act.put, List.getElem_toArray, List.getElem_cons_zero, List.getElem_cons_succ, List.setIfInBounds_toArray, List.set_cons_zero, List.set_cons_succ]
      refine wpAnyH_ready (rs := [21]) (by as_aux_lemma => kernel_rfl) (by simp) ?_
      refine AllReadyH.cons rfl (fun K hK => ?_) AllReadyH.nil
      go_simp
      obtain ⟨p102, hp102⟩ : ∃ p : Option Addr, p = some ⟨u101.heap.size, 0, none⟩ := ⟨_, rfl⟩
      obtain ⟨u102, hu102⟩ : ∃ U, U = u101.alloc (.cells #[.int .i64 1] 3) := ⟨_, rfl⟩
      have F21 : Hid (Lst.Ints 0 u102 (.slice p102 1 1) [1]) := Lib.hid (by rw [hp102, hu102]; exact int_lit1 _ _)
      have hb : Below u101.heap.size u101 u102 := by rw [hu102]; exact (Below.refl _ _).alloc (Nat.le_refl _) _
      have H102 : Hid (LG w0 b nbs ga gc ⟨0, 1, 2, 5⟩ ⟨0, 1, 3, 4⟩ [⟨0, 1, 2, 5⟩, ⟨0, 1, 3, 4⟩] u102) := Lib.hid (H101.out.below hb)
      have hb102 := Lib.hid hb
      rw [← hp102, ← hu102]
      clear hp102 hu102 hb
      refine hK.out _ _ (LGc.out _ _ H102.out) (fun hHeld102 => ?_)
      clear hK K
      try simp only [Act.put, List.getElem_toArray, List.getElem_cons_zero, List.getElem_cons_succ, List.setIfInBounds_toArray, List.set_cons_zero, List.set_cons_succ]
      exact HJ _ _ _ ⟨F20.out.below hb102.out, F21.out, H102.out⟩
    refine AllReadyH.cons rfl (fun K hK => ?bz21) ?cz21
    case bz21 =>
      go_simp
      obtain ⟨p103, hp103⟩ : ∃ p : Option Addr, p = some ⟨D8.heap.size, 0, none⟩ := ⟨_, rfl⟩
      obtain ⟨u103, hu103⟩ : ∃ U, U = D8.alloc (.cells #[.int .i64 1] 3) := ⟨_, rfl⟩
      have F21 : Hid (Lst.Ints 0 u103 (.slice p103 1 1) [1]) := Lib.hid (by rw [hp103, hu103]; exact int_lit1 _ _)
      have hb : Below D8.heap.size D8 u103 := by rw [hu103]; exact (Below.refl _ _).alloc (Nat.le_refl _) _
      have H103 : Hid (LG w0 b nbs ga gc ⟨0, 1, 2, 5⟩ ⟨0, 1, 3, 4⟩ [⟨0, 1, 2, 5⟩, ⟨0, 1, 3, 4⟩] u103) := Lib.hid (H6.out.below hb)
      have hb103 := Lib.hid hb
      rw [← hp103, ← hu103]
      clear hp103 hu103 hb
      refine hK.out _ _ (LGc.out _ _ H103.out) (fun hHeld103 => ?_)
      clear hK K
      try simp only [Act.put, List.getElem_toArray, List.getElem_cons_zero, List.getElem_cons_succ, List.setIfInBounds_toArray, List.set_cons_zero, List.set_cons_succ]
      refine wpAnyH_ready (rs := [20]) (by as_aux_lemma => kernel_rfl) (by simp) ?_
      refine AllReadyH.cons rfl (fun K hK => ?_) AllReadyH.nil
      go_simp
      refine (next_q (q := [⟨0, 1, 2, 5⟩, ⟨0, 1, 3, 4⟩]) H103.out.1.1 (by omega) 4 0).mono ?_
      intro e u104 hp
      obtain ⟨x20, he, hx, hfo, H104, hb⟩ := lg_nums (zs := [1]) H103.out (by simp) ((show sideO (ofA [⟨0, 1, 2, 5⟩, ⟨0, 1, 3, 4⟩] 4) 0 false = [1] by decide +kernel) ▸ hp)
      subst he
      have F20 : Hid (Lst.Ints 0 u104 x20 [1]) := Lib.hid hx
      have hb104 := Lib.hid hb
      clear hp hx hb hfo
      refine hK.out _ _ (LGc.out _ _ H104.out) (fun hHeld104 => ?_)
      clear hK K
      try simp only [Act.put, List.getElem_toArray, List.getElem_cons_zero, List.getElem_cons_succ, List.setIfInBounds_toArray, List.set_cons_zero, List.set_cons_succ]
      rw [Array.setIfInBounds_comm _ _ (show 21 ≠ 20 by decide)]
      exact HJ _ _ _ ⟨F20.out, F21.out.below hb104.out, H104.out⟩
    exact AllReadyH.nil
  rintro x105 p105 u105 ⟨h1, h2, h3⟩
  have F20 := Lib.hid h1
  have F21 := Lib.hid h2
  have H105 := Lib.hid h3
  have hHeld105 := LGc.out _ _ H105.out
  clear h1 h2 h3
  refine wpAnyH_ready (rs := [22]) (by as_aux_lemma => kernel_rfl) (by simp) ?_
  refine AllReadyH.cons rfl (fun K hK => ?_) AllReadyH.nil
  go_simp
  refine (lg_same H105.out F20.out F21.out).mono ?_
  rintro e u106 ⟨rfl, H106⟩
  refine hK.out _ _ (LGc.out _ _ H106.out) (fun hHeld106 => ?_)
  clear hK K
  try simp only [Act.put, List.getElem_toArray, List.getElem_cons_zero, List.getElem_cons_succ, List.setIfInBounds_toArray, List.set_cons_zero, List.set_cons_succ]
  refine wpAnyH_take (i := 23) (v := ?_) rfl (by as_aux_lemma => kernel_rfl) (by as_aux_lemma => kernel_rfl) (by as_aux_lemma => kernel_rfl) (fun _ _ _ h => h) (Or.inl ⟨by as_aux_lemma => rfl, ?yz23⟩) (by assumption) ?qz23
  case yz23 => (intro wz hSw; (try dsimp only at hSw); go_simp <;> with_reducible rfl)
  try simp only [Act.put, List.getElem_toArray, List.getElem_cons_zero, List.getElem_cons_succ, List.setIfInBounds_toArray, List.set_cons_zero, List.set_cons_succ]
  refine wpAnyH_take (i := 24) (v := ?_) rfl (by as_aux_lemma => kernel_rfl) (by as_aux_lemma => kernel_rfl) (by as_aux_lemma => kernel_rfl) (fun _ _ _ h => h) (Or.inl ⟨by as_aux_lemma => rfl, ?yz24⟩) (by assumption) ?qz24
  case yz24 => (intro wz hSw; (try dsimp only at hSw); go_simp <;> with_reducible rfl)
  try simp only [Act.put, List.getElem_toArray, List.getElem_cons_zero, List.getElem_cons_succ, List.setIfInBounds_toArray, List.set_cons_zero, List.set_cons_succ]
  refine wpAnyH_take (i := 25) (v := ?_) rfl (by as_aux_lemma => kernel_rfl) (by as_aux_lemma => kernel_rfl) (by as_aux_lemma => kernel_rfl) (fun _ _ _ h => h) (Or.inl ⟨by as_aux_lemma => rfl, ?yz25⟩) (by assumption) ?qz25
  case yz25 => (intro wz hSw; (try dsimp only at hSw); go_simp <;> with_reducible rfl)
  try simp only [Act.put, List.getElem_toArray, List.getElem_cons_zero, List.getElem_cons_succ, List.setIfInBounds_toArray, List.set_cons_zero, List.set_cons_succ]
  refine wpAnyH_ready (rs := [26]) (by as_aux_lemma => kernel_rfl) (by simp) ?_
  refine AllReadyH.cons rfl (fun K hK => ?_) AllReadyH.nil
  go_simp
  refine (next_q (q := [⟨0, 1, 2, 5⟩, ⟨0, 1, 3, 4⟩]) H106.out.1.1 (by omega) 2 0).mono ?_
  intro e u107 hp
  obtain ⟨x26, he, hx, hfo, H107, hb⟩ := lg_nums (zs := []) H106.out (by simp) ((show sideO (ofA [⟨0, 1, 2, 5⟩, ⟨0, 1, 3, 4⟩] 2) 0 false = [] by decide +kernel) ▸ hp)
  subst he
  obtain ⟨pf26, cf26, hfo⟩ : ∃ p c, x26 = Value.slice p 0 c := hfo
  subst hfo
  have F26 : Hid (Lst.Ints 0 u107 (.slice pf26 0 cf26) []) := Lib.hid hx
  have hb107 := Lib.hid hb
  clear hp hx hb
  refine hK.out _ _ (LGc.out _ _ H107.out) (fun hHeld107 => ?_)
  clear hK K
  try simp only [Act.put, List.getElem_toArray, List.getElem_cons_zero, List.getElem_cons_succ, List.setIfInBounds_toArray, List.set_cons_zero, List.set_cons_succ]
  refine wpAnyH_take (i := 27) (v := ?_) rfl (by as_aux_lemma => kernel_rfl) (by as_aux_lemma => kernel_rfl) (by as_aux_lemma => kernel_rfl) (fun _ _ _ h => h) (Or.inl ⟨by as_aux_lemma => rfl, ?yz27⟩) (by assumption) ?qz27
  case yz27 => (intro wz hSw; (try dsimp only at hSw); go_simp <;> with_reducible rfl)
  try simp only [Act.put, List.getElem_toArray, List.getElem_cons_zero, List.getElem_cons_succ, List.setIfInBounds_toArray, List.set_cons_zero, List.set_cons_succ]
  refine wpAnyH_take (i := 28) (v := ?_) rfl (by as_aux_lemma => kernel_rfl) (by as_aux_lemma => kernel_rfl) (by as_aux_lemma => kernel_rfl) (fun _ _ _ h => h) (Or.inl ⟨by as_aux_lemma => rfl, ?yz28⟩) (by assumption) ?qz28
  case yz28 => (intro wz hSw; (try dsimp only at hSw); go_simp <;> with_reducible rfl)
  try simp only [Act.put, List.getElem_toArray, List.getElem_cons_zero, List.getElem_cons_succ, List.setIfInBounds_toArray, List.set_cons_zero, List.set_cons_succ]
  refine wpAnyH_take (i := 29) (v := ?_) rfl (by as_aux_lemma => kernel_rfl) (by as_aux_lemma => kernel_rfl) (by as_aux_lemma => kernel_rfl) (fun _ _ _ h => h) (Or.inl ⟨by as_aux_lemma => rfl, ?yz29⟩) (by assumption) ?qz29
  case yz29 => (intro wz hSw; (try dsimp only at hSw); go_simp <;> with_reducible rfl)
  try simp only [Act.put, List.getElem_toArray, List.getElem_cons_zero, List.getElem_cons_succ, List.setIfInBounds_toArray, List.set_cons_zero, List.set_cons_succ]
  refine wpAnyH_take (i := 30) (v := ?_) rfl (by as_aux_lemma => kernel_rfl) (by as_aux_lemma => kernel_rfl) (by as_aux_lemma => kernel_rfl) (fun _ _ _ h => h) (Or.inl ⟨by as_aux_lemma => rfl, ?yz30⟩) (by assumption) ?qz30
  case yz30 => (intro wz hSw; (try dsimp only at hSw); go_simp <;> with_reducible rfl)
  try simp only [Act.put, List.getElem_toArray, List.getElem_cons_zero, List.getElem_cons_succ, List.setIfInBounds_toArray, List.set_cons_zero, List.set_cons_succ]
  refine wpAnyH_take (i := 31) (v := ?_) rfl (by as_aux_lemma => kernel_rfl) (by as_aux_lemma => kernel_rfl) (by as_aux_lemma => kernel_rfl) (fun _ _ _ h => h) (Or.inl ⟨by as_aux_lemma => rfl, ?yz31⟩) (by assumption) ?qz31
  case yz31 => (intro wz hSw; (try dsimp only at hSw); go_simp <;> with_reducible rfl)
  try simp only [Act.put, List.getElem_toArray, List.getElem_cons_zero, List.getElem_cons_succ, List.setIfInBounds_toArray, List.set_cons_zero, List.set_cons_succ]
  refine wpAnyH_take (i := 33) (v := ?_) rfl (by as_aux_lemma => kernel_rfl) (by as_aux_lemma => kernel_rfl) (by as_aux_lemma => kernel_rfl) (fun _ _ _ h => h) (Or.inl ⟨by as_aux_lemma => rfl, ?yz33⟩) (by assumption) ?qz33
  case yz33 => (intro wz hSw; (try dsimp only at hSw); go_simp <;> with_reducible rfl)
  try simp only [Act.put, List.getElem_toArray, List.getElem_cons_zero, List.getElem_cons_succ, List.setIfInBounds_toArray, List.set_cons_zero, List.set_cons_succ]
  refine wpAnyH_take (i := 34) (v := ?_) rfl (by as_aux_lemma => kernel_rfl) (by as_aux_lemma => kernel_rfl) (by as_aux_lemma => kernel_rfl) (fun _ _ _ h => h) (Or.inl ⟨by as_aux_lemma => rfl, ?yz34⟩) (by assumption) ?qz34
  case yz34 => (intro wz hSw; (try dsimp only at hSw); go_simp <;> with_reducible rfl)
  try simp only [Act.put, List.getElem_toArray, List.getElem_cons_zero, List.getElem_cons_succ, List.setIfInBounds_toArray, List.set_cons_zero, List.set_cons_succ]
  refine joinG3 (fun (x : Value) (p : Option Addr) (u : World) => Arcs 0 u x [⟨0, 1, 2, 5⟩, ⟨0, 1, 3, 4⟩] ∧ Arcs 0 u (.slice p 2 2) [⟨0, 1, 2, 5⟩, ⟨0, 1, 3, 4⟩] ∧ LG w0 b nbs ga gc ⟨0, 1, 2, 5⟩ ⟨0, 1, 3, 4⟩ [⟨0, 1, 2, 5⟩, ⟨0, 1, 3, 4⟩] u) ?Gz32 (fun HJ => ?fz32) ?rz32
  case fz32 =>
    refine wpAnyH_ready (rs := [32, 35]) (by as_aux_lemma => kernel_rfl) (by simp) ?_
    refine AllReadyH.cons rfl (fun K hK => ?bz32) ?cz32
    case bz32 =>
      go_simp
      refine (out_q (q := [⟨0, 1, 2, 5⟩, ⟨0, 1, 3, 4⟩]) H107.out.1.1 (by omega) 12 0).mono ?_
      intro e u108 hp
      obtain ⟨x32, he, hx, hfo, H108, hb⟩ := lg_arcs (zs := [⟨0, 1, 2, 5⟩, ⟨0, 1, 3, 4⟩]) H107.out (by simp) ((show ((ofA ([⟨0, 1, 2, 5⟩, ⟨0, 1, 3, 4⟩] : List Arc) 12).filter fun x : Arc => x.fr == 0) = ([⟨0, 1, 2, 5⟩, ⟨0, 1, 3, 4⟩] : List Arc) by decide +kernel) ▸ hp)
      subst he
      have F32 : Hid (Arcs 0 u108 x32 [⟨0, 1, 2, 5⟩, ⟨0, 1, 3, 4⟩]) := Lib.hid hx
      have hb108 := Lib.hid hb
      clear hp hx hb hfo
      refine hK.out _ _ (LGc.out _ _ H108.out) (fun hHeld108 => ?_)
      clear hK K
      try simp only [Act.put, List.getElem_toArray, List.getElem_cons_zero, List.getElem_cons_succ, List.setIfInBounds_toArray, List.set_cons_zero, List.set_cons_succ]
      refine wpAnyH_ready (rs := [35]) (by as_aux_lemma => kernel_rfl) (by simp) ?_
      refine AllReadyH.cons rfl (fun K hK => ?_) AllReadyH.nil
      go_simp
      obtain ⟨p109, hp109⟩ : ∃ p : Option Addr, p = some ⟨u108.heap.size, 0, none⟩ := ⟨_, rfl⟩
      obtain ⟨u109, hu109⟩ : ∃ U, U = u108.alloc (.cells #[.int .i64 0, .int .i64 1, .int .i64 2, .int .i64 5, .int .i64 0, .int .i64 1, .int .i64 3, .int .i64 4] 29) := ⟨_, rfl⟩
      have F35 : Hid (Arcs 0 u109 (.slice p109 2 2) [⟨0, 1, 2, 5⟩, ⟨0, 1, 3, 4⟩]) := Lib.hid (by rw [hp109, hu109]; exact arc_lit2 _)
      have hb : Below u108.heap.size u108 u109 := by rw [hu109]; exact (Below.refl _ _).alloc (Nat.le_refl _) _
      have H109 : Hid (LG w0 b nbs ga gc ⟨0, 1, 2, 5⟩ ⟨0, 1, 3, 4⟩ [⟨0, 1, 2, 5⟩, ⟨0, 1, 3, 4⟩] u109) := Lib.hid (H108.out.below hb)
      have hb109 := Lib.hid hb
      rw [← hp109, ← hu109]
      clear hp109 hu109 hb
      refine hK.out _ _ (LGc.out _ _ H109.out) (fun hHeld109 => ?_)
      clear hK K
      try simp only [Act.put, List.getElem_toArray, List.getElem_cons_zero, List.getElem_cons_succ, List.setIfInBounds_toArray, List.set_cons_zero, List.set_cons_succ]
      exact HJ _ _ _ ⟨F32.out.below hb109.out, F35.out, H109.out⟩
    refine AllReadyH.cons rfl (fun K hK => ?bz35) ?cz35
    case bz35 =>
      go_simp
      obtain ⟨p110, hp110⟩ : ∃ p : Option Addr, p = some ⟨u107.heap.size, 0, none⟩ := ⟨_, rfl⟩
      obtain ⟨u110, hu110⟩ : ∃ U, U = u107.alloc (.cells #[.int .i64 0, .int .i64 1, .int .i64 2, .int .i64 5, .int .i64 0, .int .i64 1, .int .i64 3, .int .i64 4] 29) := ⟨_, rfl⟩
      have F35 : Hid (Arcs 0 u110 (.slice p110 2 2) [⟨0, 1, 2, 5⟩, ⟨0, 1, 3, 4⟩]) := Lib.hid (by rw [hp110, hu110]; exact arc_lit2 _)
      have hb : Below u107.heap.size u107 u110 := by rw [hu110]; exact (Below.refl _ _).alloc (Nat.le_refl _) _
      have H110 : Hid (LG w0 b nbs ga gc ⟨0, 1, 2, 5⟩ ⟨0, 1, 3, 4⟩ [⟨0, 1, 2, 5⟩, ⟨0, 1, 3, 4⟩] u110) := Lib.hid (H107.out.below hb)
      have hb110 := Lib.hid hb
      rw [← hp110, ← hu110]
      clear hp110 hu110 hb
      refine hK.out _ _ (LGc.out _ _ H110.out) (fun hHeld110 => ?_)
      clear hK K
      try simp only [Act.put, List.getElem_toArray, List.getElem_cons_zero, List.getElem_cons_succ, List.setIfInBounds_toArray, List.set_cons_zero, List.set_cons_succ]
      refine wpAnyH_ready (rs := [32]) (by as_aux_lemma => kernel_rfl) (by simp) ?_
      refine AllReadyH.cons rfl (fun K hK => ?_) AllReadyH.nil
      go_simp
      refine (out_q (q := [⟨0, 1, 2, 5⟩, ⟨0, 1, 3, 4⟩]) H110.out.1.1 (by omega) 12 0).mono ?_
      intro e u111 hp
      obtain ⟨x32, he, hx, hfo, H111, hb⟩ := lg_arcs (zs := [⟨0, 1, 2, 5⟩, ⟨0, 1, 3, 4⟩]) H110.out (by simp) ((show ((ofA ([⟨0, 1, 2, 5⟩, ⟨0, 1, 3, 4⟩] : List Arc) 12).filter fun x : Arc => x.fr == 0) = ([⟨0, 1, 2, 5⟩, ⟨0, 1, 3, 4⟩] : List Arc) by decide +kernel) ▸ hp)
      subst he
      have F32 : Hid (Arcs 0 u111 x32 [⟨0, 1, 2, 5⟩, ⟨0, 1, 3, 4⟩]) := Lib.hid hx
      have hb111 := Lib.hid hb
      clear hp hx hb hfo
      refine hK.out _ _ (LGc.out _ _ H111.out) (fun hHeld111 => ?_)
      clear hK K
      try simp only [Act.put, List.getElem_toArray, List.getElem_cons_zero, List.getElem_cons_succ, List.setIfInBounds_toArray, List.set_cons_zero, List.set_cons_succ]
      rw [Array.setIfInBounds_comm _ _ (show 35 ≠ 32 by decide)]
      exact HJ _ _ _ ⟨F32.out, F35.out.below hb111.out, H111.out⟩
    exact AllReadyH.nil
  rintro x112 p112 u112 ⟨h1, h2, h3⟩
  have F32 := Lib.hid h1
  have F35 := Lib.hid h2
  have H112 := Lib.hid h3
  have hHeld112 := LGc.out _ _ H112.out
  clear h1 h2 h3
  refine wpAnyH_ready (rs := [36]) (by as_aux_lemma => kernel_rfl) (by simp) ?_
  refine AllReadyH.cons rfl (fun K hK => ?_) AllReadyH.nil
  go_simp
  refine (lg_sameA H112.out F32.out F35.out).mono ?_
  rintro e u113 ⟨rfl, H113⟩
  refine hK.out _ _ (LGc.out _ _ H113.out) (fun hHeld113 => ?_)
  clear hK K
  try simp only [Act.put, List.getElem_toArray, List.getElem_cons_zero, List.getElem_cons_succ, List.setIfInBounds_toArray, List.set_cons_zero, List.set_cons_succ]
  refine wpAnyH_take (i := 37) (v := ?_) rfl (by as_aux_lemma => kernel_rfl) (by as_aux_lemma => kernel_rfl) (by as_aux_lemma => kernel_rfl) (fun _ _ _ h => h) (Or.inl ⟨by as_aux_lemma => rfl, ?yz37⟩) (by assumption) ?qz37
  case yz37 => (intro wz hSw; (try dsimp only at hSw); go_simp <;> with_reducible rfl)
  try simp only [Act.put, List.getElem_toArray, List.getElem_cons_zero, List.getElem_cons_succ, List.setIfInBounds_toArray, List.set_cons_zero, List.set_cons_succ]
  refine wpAnyH_take (i := 38) (v := ?_) rfl (by as_aux_lemma => kernel_rfl) (by as_aux_lemma => kernel_rfl) (by as_aux_lemma => kernel_rfl) (fun _ _ _ h => h) (Or.inl ⟨by as_aux_lemma => rfl, ?yz38⟩) (by assumption) ?qz38
  case yz38 => (intro wz hSw; (try dsimp only at hSw); go_simp <;> with_reducible rfl)
  try simp only [Act.put, List.getElem_toArray, List.getElem_cons_zero, List.getElem_cons_succ, List.setIfInBounds_toArray, List.set_cons_zero, List.set_cons_succ]
  refine wpAnyH_take (i := 39) (v := ?_) rfl (by as_aux_lemma => kernel_rfl) (by as_aux_lemma => kernel_rfl) (by as_aux_lemma => kernel_rfl) (fun _ _ _ h => h) (Or.inl ⟨by as_aux_lemma => rfl, ?yz39⟩) (by assumption) ?qz39
  case yz39 => (intro wz hSw; (try dsimp only at hSw); go_simp <;> with_reducible rfl)
  try simp only [Act.put, List.getElem_toArray, List.getElem_cons_zero, List.getElem_cons_succ, List.setIfInBounds_toArray, List.set_cons_zero, List.set_cons_succ]
  refine wpAnyH_ready (rs := [40]) (by as_aux_lemma => kernel_rfl) (by simp) ?_
  refine AllReadyH.cons rfl (fun K hK => ?_) AllReadyH.nil
  go_simp
  refine (out_q (q := [⟨0, 1, 2, 5⟩, ⟨0, 1, 3, 4⟩]) H113.out.1.1 (by omega) 14 1).mono ?_
  intro e u114 hp
  obtain ⟨x40, he, hx, hfo, H114, hb⟩ := lg_arcs (zs := []) H113.out (by simp) ((show ((ofA ([⟨0, 1, 2, 5⟩, ⟨0, 1, 3, 4⟩] : List Arc) 14).filter fun x : Arc => x.fr == 1) = ([] : List Arc) by decide +kernel) ▸ hp)
  subst he
  obtain ⟨pf40, cf40, hfo⟩ : ∃ p c, x40 = Value.slice p 0 c := hfo
  subst hfo
  have F40 : Hid (Arcs 0 u114 (.slice pf40 0 cf40) []) := Lib.hid hx
  have hb114 := Lib.hid hb
  clear hp hx hb
  refine hK.out _ _ (LGc.out _ _ H114.out) (fun hHeld114 => ?_)
  clear hK K
  try simp only [Act.put, List.getElem_toArray, List.getElem_cons_zero, List.getElem_cons_succ, List.setIfInBounds_toArray, List.set_cons_zero, List.set_cons_succ]
  refine wpAnyH_take (i := 41) (v := ?_) rfl (by as_aux_lemma => kernel_rfl) (by as_aux_lemma => kernel_rfl) (by as_aux_lemma => kernel_rfl) (fun _ _ _ h => h) (Or.inl ⟨by as_aux_lemma => rfl, ?yz41⟩) (by assumption) ?qz41
  case yz41 => (intro wz hSw; (try dsimp only at hSw); go_simp <;> with_reducible rfl)
  try simp only [Act.put, List.getElem_toArray, List.getElem_cons_zero, List.getElem_cons_succ, List.setIfInBounds_toArray, List.set_cons_zero, List.set_cons_succ]
  refine wpAnyH_take (i := 42) (v := ?_) rfl (by as_aux_lemma => kernel_rfl) (by as_aux_lemma => kernel_rfl) (by as_aux_lemma => kernel_rfl) (fun _ _ _ h => h) (Or.inl ⟨by as_aux_lemma => rfl, ?yz42⟩) (by assumption) ?qz42
  case yz42 => (intro wz hSw; (try dsimp only at hSw); go_simp <;> with_reducible rfl)
  try simp only [Act.put, List.getElem_toArray, List.getElem_cons_zero, List.getElem_cons_succ, List.setIfInBounds_toArray, List.set_cons_zero, List.set_cons_succ]
  refine wpAnyH_take (i := 43) (v := ?_) rfl (by as_aux_lemma => kernel_rfl) (by as_aux_lemma => kernel_rfl) (by as_aux_lemma => kernel_rfl) (fun _ _ _ h => h) (Or.inl ⟨by as_aux_lemma => rfl, ?yz43⟩) (by assumption) ?qz43
  case yz43 => (intro wz hSw; (try dsimp only at hSw); go_simp <;> with_reducible rfl)
  try simp only [Act.put, List.getElem_toArray, List.getElem_cons_zero, List.getElem_cons_succ, List.setIfInBounds_toArray, List.set_cons_zero, List.set_cons_succ]
  refine wpAnyH_take (i := 44) (v := ?_) rfl (by as_aux_lemma => kernel_rfl) (by as_aux_lemma => kernel_rfl) (by as_aux_lemma => kernel_rfl) (fun _ _ _ h => h) (Or.inl ⟨by as_aux_lemma => rfl, ?yz44⟩) (by assumption) ?qz44
  case yz44 => (intro wz hSw; (try dsimp only at hSw); go_simp <;> with_reducible rfl)
  try simp only [Act.put, List.getElem_toArray, List.getElem_cons_zero, List.getElem_cons_succ, List.setIfInBounds_toArray, List.set_cons_zero, List.set_cons_succ]
  refine wpAnyH_take (i := 45) (v := ?_) rfl (by as_aux_lemma => kernel_rfl) (by as_aux_lemma => kernel_rfl) (by as_aux_lemma => kernel_rfl) (fun _ _ _ h => h) (Or.inl ⟨by as_aux_lemma => rfl, ?yz45⟩) (by assumption) ?qz45
  case yz45 => (intro wz hSw; (try dsimp only at hSw); go_simp <;> with_reducible rfl)
  try simp only [Act.put, List.getElem_toArray, List.getElem_cons_zero, List.getElem_cons_succ, List.setIfInBounds_toArray, List.set_cons_zero, List.set_cons_succ]
  refine joinG3 (fun (x : Value) (p : Option Addr) (u : World) => Lst.Ints 0 u x [0] ∧ Lst.Ints 0 u (.slice p 1 1) [0] ∧ LG w0 b nbs ga gc ⟨0, 1, 2, 5⟩ ⟨0, 1, 3, 4⟩ [⟨0, 1, 2, 5⟩, ⟨0, 1, 3, 4⟩] u) ?Gz46 (fun HJ => ?fz46) ?rz46
  case fz46 =>
    refine wpAnyH_ready (rs := [46, 47]) (by as_aux_lemma => kernel_rfl) (by simp) ?_
    refine AllReadyH.cons rfl (fun K hK => ?bz46) ?cz46
    case bz46 =>
      go_simp
      refine (prev_q (q := [⟨0, 1, 2, 5⟩, ⟨0, 1, 3, 4⟩]) H114.out.1.1 (by omega) (-1) 1).mono ?_
      intro e u115 hp
      obtain ⟨x46, he, hx, hfo, H115, hb⟩ := lg_nums (zs := [0]) H114.out (by simp) ((show sideO (ofA [⟨0, 1, 2, 5⟩, ⟨0, 1, 3, 4⟩] (-1)) 1 true = [0] by decide +kernel) ▸ hp)
      subst he
      have F46 : Hid (Lst.Ints 0 u115 x46 [0]) := Lib.hid hx
      have hb115 := Lib.hid hb
      clear hp hx hb hfo
      refine hK.out _ _ (LGc.out _ _ H115.out) (fun hHeld115 => ?_)
      clear hK K
      try simp only [Act.put, List.getElem_toArray, List.getElem_cons_zero, List.getElem_cons_succ, List.setIfInBounds_toArray, List.set_cons_zero, List.set_cons_succ]
      refine wpAnyH_ready (rs := [47]) (by as_aux_lemma => kernel_rfl) (by simp) ?_
      refine AllReadyH.cons rfl (fun K hK => ?_) AllReadyH.nil
      go_simp
      obtain ⟨p116, hp116⟩ : ∃ p : Option Addr, p = some ⟨u115.heap.size, 0, none⟩ := ⟨_, rfl⟩
      obtain ⟨u116, hu116⟩ : ∃ U, U = u115.alloc (.cells #[.int .i64 0] 3) := ⟨_, rfl⟩
      have F47 : Hid (Lst.Ints 0 u116 (.slice p116 1 1) [0]) := Lib.hid (by rw [hp116, hu116]; exact int_lit1 _ _)
      have hb : Below u115.heap.size u115 u116 := by rw [hu116]; exact (Below.refl _ _).alloc (Nat.le_refl _) _
      have H116 : Hid (LG w0 b nbs ga gc ⟨0, 1, 2, 5⟩ ⟨0, 1, 3, 4⟩ [⟨0, 1, 2, 5⟩, ⟨0, 1, 3, 4⟩] u116) := Lib.hid (H115.out.below hb)
      have hb116 := Lib.hid hb
      rw [← hp116, ← hu116]
      clear hp116 hu116 hb
      refine hK.out _ _ (LGc.out _ _ H116.out) (fun hHeld116 => ?_)
      clear hK K
      try simp only [Act.put, List.getElem_toArray, List.getElem_cons_zero, List.getElem_cons_succ, List.setIfInBounds_toArray, List.set_cons_zero, List.set_cons_succ]
      exact HJ _ _ _ ⟨F46.out.below hb116.out, F47.out, H116.out⟩
    refine AllReadyH.cons rfl (fun K hK => ?bz47) ?cz47
    case bz47 =>
      go_simp
      obtain ⟨p117, hp117⟩ : ∃ p : Option Addr, p = some ⟨u114.heap.size, 0, none⟩ := ⟨_, rfl⟩
      obtain ⟨u117, hu117⟩ : ∃ U, U = u114.alloc (.cells #[.int .i64 0] 3) := ⟨_, rfl⟩
      have F47 : Hid (Lst.Ints 0 u117 (.slice p117 1 1) [0]) := Lib.hid (by rw [hp117, hu117]; exact int_lit1 _ _)
      have hb : Below u114.heap.size u114 u117 := by rw [hu117]; exact (Below.refl _ _).alloc (Nat.le_refl _) _
      have H117 : Hid (LG w0 b nbs ga gc ⟨0, 1, 2, 5⟩ ⟨0, 1, 3, 4⟩ [⟨0, 1, 2, 5⟩, ⟨0, 1, 3, 4⟩] u117) := Lib.hid (H114.out.below hb)
      have hb117 := Lib.hid hb
      rw [← hp117, ← hu117]
      clear hp117 hu117 hb
      refine hK.out _ _ (LGc.out _ _ H117.out) (fun hHeld117 => ?_)
      clear hK K
      try simp only [Act.put, List.getElem_toArray, List.getElem_cons_zero, List.getElem_cons_succ, List.setIfInBounds_toArray, List.set_cons_zero, List.set_cons_succ]
      refine wpAnyH_ready (rs := [46]) (by as_aux_lemma => kernel_rfl) (by simp) ?_
      refine AllReadyH.cons rfl (fun K hK => ?_) AllReadyH.nil
      go_simp
      refine (prev_q (q := [⟨0, 1, 2, 5⟩, ⟨0, 1, 3, 4⟩]) H117.out.1.1 (by omega) (-1) 1).mono ?_
      intro e u118 hp
      obtain ⟨x46, he, hx, hfo, H118, hb⟩ := lg_nums (zs := [0]) H117.out (by simp) ((show sideO (ofA [⟨0, 1, 2, 5⟩, ⟨0, 1, 3, 4⟩] (-1)) 1 true = [0] by decide +kernel) ▸ hp)
      subst he
      have F46 : Hid (Lst.Ints 0 u118 x46 [0]) := Lib.hid hx
      have hb118 := Lib.hid hb
      clear hp hx hb hfo
      refine hK.out _ _ (LGc.out _ _ H118.out) (fun hHeld118 => ?_)
      clear hK K
      try simp only [Act.put, List.getElem_toArray, List.getElem_cons_zero, List.getElem_cons_succ, List.setIfInBounds_toArray, List.set_cons_zero, List.set_cons_succ]
      rw [Array.setIfInBounds_comm _ _ (show 47 ≠ 46 by decide)]
      exact HJ _ _ _ ⟨F46.out, F47.out.below hb118.out, H118.out⟩
    exact AllReadyH.nil
  rintro x119 p119 u119 ⟨h1, h2, h3⟩
  have F46 := Lib.hid h1
  have F47 := Lib.hid h2
  have H119 := Lib.hid h3
  have hHeld119 := LGc.out _ _ H119.out
  clear h1 h2 h3
  refine wpAnyH_ready (rs := [48]) (by as_aux_lemma => kernel_rfl) (by simp) ?_
  refine AllReadyH.cons rfl (fun K hK => ?_) AllReadyH.nil
  go_simp
  refine (lg_same H119.out F46.out F47.out).mono ?_
  rintro e u120 ⟨rfl, H120⟩
  refine hK.out _ _ (LGc.out _ _ H120.out) (fun hHeld120 => ?_)
  clear hK K
  try simp only [Act.put, List.getElem_toArray, List.getElem_cons_zero, List.getElem_cons_succ, List.setIfInBounds_toArray, List.set_cons_zero, List.set_cons_succ]
  refine wpAnyH_take (i := 49) (v := ?_) rfl (by as_aux_lemma => kernel_rfl) (by as_aux_lemma => kernel_rfl) (by as_aux_lemma => kernel_rfl) (fun _ _ _ h => h) (Or.inl ⟨by as_aux_lemma => rfl, ?yz49⟩) (by assumption) ?qz49
  case yz49 => (intro wz hSw; (try dsimp only at hSw); go_simp <;> with_reducible rfl)
  try simp only [Act.put, List.getElem_toArray, List.getElem_cons_zero, List.getElem_cons_succ, List.setIfInBounds_toArray, List.set_cons_zero, List.set_cons_succ]
  refine wpAnyH_take (i := 50) (v := ?_) rfl (by as_aux_lemma => kernel_rfl) (by as_aux_lemma => kernel_rfl) (by as_aux_lemma => kernel_rfl) (fun _ _ _ h => h) (Or.inl ⟨by as_aux_lemma => rfl, ?yz50⟩) (by assumption) ?qz50
  case yz50 => (intro wz hSw; (try dsimp only at hSw); go_simp <;> with_reducible rfl)
  try simp only [Act.put, List.getElem_toArray, List.getElem_cons_zero, List.getElem_cons_succ, List.setIfInBounds_toArray, List.set_cons_zero, List.set_cons_succ]
  refine wpAnyH_take (i := 51) (v := ?_) rfl (by as_aux_lemma => kernel_rfl) (by as_aux_lemma => kernel_rfl) (by as_aux_lemma => kernel_rfl) (fun _ _ _ h => h) (Or.inl ⟨by as_aux_lemma => rfl, ?yz51⟩) (by assumption) ?qz51
  case yz51 => (intro wz hSw; (try dsimp only at hSw); go_simp <;> with_reducible rfl)
  try simp only [Act.put, List.getElem_toArray, List.getElem_cons_zero, List.getElem_cons_succ, List.setIfInBounds_toArray, List.set_cons_zero, List.set_cons_succ]
  refine wpAnyH_take (i := 53) (v := ?_) rfl (by as_aux_lemma => kernel_rfl) (by as_aux_lemma => kernel_rfl) (by as_aux_lemma => kernel_rfl) (fun _ _ _ h => h) (Or.inl ⟨by as_aux_lemma => rfl, ?yz53⟩) (by assumption) ?qz53
  case yz53 => (intro wz hSw; (try dsimp only at hSw); go_simp <;> with_reducible rfl)
  try simp only [Act.put, List.getElem_toArray, List.getElem_cons_zero, List.getElem_cons_succ, List.setIfInBounds_toArray, List.set_cons_zero, List.set_cons_succ]
  refine joinG3 (fun (x : Value) (p : Option Addr) (u : World) => Arcs 0 u x [⟨0, 1, 3, 4⟩] ∧ Arcs 0 u (.slice p 1 1) [⟨0, 1, 3, 4⟩] ∧ LG w0 b nbs ga gc ⟨0, 1, 2, 5⟩ ⟨0, 1, 3, 4⟩ [⟨0, 1, 2, 5⟩, ⟨0, 1, 3, 4⟩] u) ?Gz52 (fun HJ => ?fz52) ?rz52
  case fz52 =>
    refine wpAnyH_ready (rs := [52, 54]) (by as_aux_lemma => kernel_rfl) (by simp) ?_
    refine AllReadyH.cons rfl (fun K hK => ?bz52) ?cz52
    case bz52 =>
      go_simp
      refine (arcs_q (q := [⟨0, 1, 2, 5⟩, ⟨0, 1, 3, 4⟩]) H120.out.1.1 (by omega) 8).mono ?_
      intro e u121 hp
      obtain ⟨x52, he, hx, hfo, H121, hb⟩ := lg_arcs (zs := [⟨0, 1, 3, 4⟩]) H120.out (by simp) ((show (ofA ([⟨0, 1, 2, 5⟩, ⟨0, 1, 3, 4⟩] : List Arc) 8) = ([⟨0, 1, 3, 4⟩] : List Arc) by decide +kernel) ▸ hp)
      subst he
      have F52 : Hid (Arcs 0 u121 x52 [⟨0, 1, 3, 4⟩]) := Lib.hid hx
      have hb121 := Lib.hid hb
      clear hp hx hb hfo
      refine hK.out _ _ (LGc.out _ _ H121.out) (fun hHeld121 => ?_)
      clear hK K
      try simp only [Act.put, List.getElem_toArray, List.getElem_cons_zero, List.getElem_cons_succ, List.setIfInBounds_toArray, List.set_cons_zero, List.set_cons_succ]
      refine wpAnyH_ready (rs := [54]) (by as_aux_lemma => kernel_rfl) (by simp) ?_
      refine AllReadyH.cons rfl (fun K hK => ?_) AllReadyH.nil
      go_simp
      obtain ⟨p122, hp122⟩ : ∃ p : Option Addr, p = some ⟨u121.heap.size, 0, none⟩ := ⟨_, rfl⟩
      obtain ⟨u122, hu122⟩ : ∃ U, U = u121.alloc (.cells #[.int .i64 0, .int .i64 1, .int .i64 3, .int .i64 4] 29) := ⟨_, rfl⟩
      have F54 : Hid (Arcs 0 u122 (.slice p122 1 1) [⟨0, 1, 3, 4⟩]) := Lib.hid (by rw [hp122, hu122]; exact arc_lit ⟨0, 1, 3, 4⟩ _)
      have hb : Below u121.heap.size u121 u122 := by rw [hu122]; exact (Below.refl _ _).alloc (Nat.le_refl _) _
      have H122 : Hid (LG w0 b nbs ga gc ⟨0, 1, 2, 5⟩ ⟨0, 1, 3, 4⟩ [⟨0, 1, 2, 5⟩, ⟨0, 1, 3, 4⟩] u122) := Lib.hid (H121.out.below hb)
      have hb122 := Lib.hid hb
      rw [← hp122, ← hu122]
      clear hp122 hu122 hb
      refine hK.out _ _ (LGc.out _ _ H122.out) (fun hHeld122 => ?_)
      clear hK K
      try simp only [Act.put, List.getElem_toArray, List.getElem_cons_zero, List.getElem_cons_succ, List.setIfInBounds_toArray, List.set_cons_zero, List.set_cons_succ]
      exact HJ _ _ _ ⟨F52.out.below hb122.out, F54.out, H122.out⟩
    refine AllReadyH.cons rfl (fun K hK => ?bz54) ?cz54
    case bz54 =>
      go_simp
      obtain ⟨p123, hp123⟩ : ∃ p : Option Addr, p = some ⟨u120.heap.size, 0, none⟩ := ⟨_, rfl⟩
      obtain ⟨u123, hu123⟩ : ∃ U, U = u120.alloc (.cells #[.int .i64 0, .int .i64 1, .int .i64 3, .int .i64 4] 29) := ⟨_, rfl⟩
      have F54 : Hid (Arcs 0 u123 (.slice p123 1 1) [⟨0, 1, 3, 4⟩]) := Lib.hid (by rw [hp123, hu123]; exact arc_lit ⟨0, 1, 3, 4⟩ _)
      have hb : Below u120.heap.size u120 u123 := by rw [hu123]; exact (Below.refl _ _).alloc (Nat.le_refl _) _
      have H123 : Hid (LG w0 b nbs ga gc ⟨0, 1, 2, 5⟩ ⟨0, 1, 3, 4⟩ [⟨0, 1, 2, 5⟩, ⟨0, 1, 3, 4⟩] u123) := Lib.hid (H120.out.below hb)
      have hb123 := Lib.hid hb
      rw [← hp123, ← hu123]
      clear hp123 hu123 hb
      refine hK.out _ _ (LGc.out _ _ H123.out) (fun hHeld123 => ?_)
      clear hK K
      try simp only [Act.put, List.getElem_toArray, List.getElem_cons_zero, List.getElem_cons_succ, List.setIfInBounds_toArray, List.set_cons_zero, List.set_cons_succ]
      refine wpAnyH_ready (rs := [52]) (by as_aux_lemma => kernel_rfl) (by simp) ?_
      refine AllReadyH.cons rfl (fun K hK => ?_) AllReadyH.nil
      go_simp
      refine (arcs_q (q := [⟨0, 1, 2, 5⟩, ⟨0, 1, 3, 4⟩]) H123.out.1.1 (by omega) 8).mono ?_
      intro e u124 hp
      obtain ⟨x52, he, hx, hfo, H124, hb⟩ := lg_arcs (zs := [⟨0, 1, 3, 4⟩]) H123.out (by simp) ((show (ofA ([⟨0, 1, 2, 5⟩, ⟨0, 1, 3, 4⟩] : List Arc) 8) = ([⟨0, 1, 3, 4⟩] : List Arc) by decide +kernel) ▸ hp)
      subst he
      have F52 : Hid (Arcs 0 u124 x52 [⟨0, 1, 3, 4⟩]) := Lib.hid hx
      have hb124 := Lib.hid hb
      clear hp hx hb hfo
      refine hK.out _ _ (LGc.out _ _ H124.out) (fun hHeld124 => ?_)
      clear hK K
      try simp only [Act.put, List.getElem_toArray, List.getElem_cons_zero, List.getElem_cons_succ, List.setIfInBounds_toArray, List.set_cons_zero, List.set_cons_succ]
      rw [Array.setIfInBounds_comm _ _ (show 54 ≠ 52 by decide)]
      exact HJ _ _ _ ⟨F52.out, F54.out.below hb124.out, H124.out⟩
    exact AllReadyH.nil
  rintro x125 p125 u125 ⟨h1, h2, h3⟩
  have F52 := Lib.hid h1
  have F54 := Lib.hid h2
  have H125 := Lib.hid h3
  have hHeld125 := LGc.out _ _ H125.out
  clear h1 h2 h3
  refine wpAnyH_ready (rs := [55]) (by as_aux_lemma => kernel_rfl) (by simp) ?_
  refine AllReadyH.cons rfl (fun K hK => ?_) AllReadyH.nil
  go_simp
  refine (lg_sameA H125.out F52.out F54.out).mono ?_
  rintro e u126 ⟨rfl, H126⟩
  refine hK.out _ _ (LGc.out _ _ H126.out) (fun hHeld126 => ?_)
  clear hK K
  try simp only [Act.put, List.getElem_toArray, List.getElem_cons_zero, List.getElem_cons_succ, List.setIfInBounds_toArray, List.set_cons_zero, List.set_cons_succ]
  refine wpAnyH_take (i := 56) (v := ?_) rfl (by as_aux_lemma => kernel_rfl) (by as_aux_lemma => kernel_rfl) (by as_aux_lemma => kernel_rfl) (fun _ _ _ h => h) (Or.inl ⟨by as_aux_lemma => rfl, ?yz56⟩) (by assumption) ?qz56
  case yz56 => (intro wz hSw; (try dsimp only at hSw); go_simp <;> with_reducible rfl)
  try simp only [Act.put, List.getElem_toArray, List.getElem_cons_zero, List.getElem_cons_succ, List.setIfInBounds_toArray, List.set_cons_zero, List.set_cons_succ]
  refine wpAnyH_take (i := 57) (v := ?_) rfl (by as_aux_lemma => kernel_rfl) (by as_aux_lemma => kernel_rfl) (by as_aux_lemma => kernel_rfl) (fun _ _ _ h => h) (Or.inl ⟨by as_aux_lemma => rfl, ?yz57⟩) (by assumption) ?qz57
  case yz57 => (intro wz hSw; (try dsimp only at hSw); go_simp <;> with_reducible rfl)
  try simp only [Act.put, List.getElem_toArray, List.getElem_cons_zero, List.getElem_cons_succ, List.setIfInBounds_toArray, List.set_cons_zero, List.set_cons_succ]
  refine wpAnyH_take (i := 58) (v := ?_) rfl (by as_aux_lemma => kernel_rfl) (by as_aux_lemma => kernel_rfl) (by as_aux_lemma => kernel_rfl) (fun _ _ _ h => h) (Or.inl ⟨by as_aux_lemma => rfl, ?yz58⟩) (by assumption) ?qz58
  case yz58 => (intro wz hSw; (try dsimp only at hSw); go_simp <;> with_reducible rfl)
  try simp only [Act.put, List.getElem_toArray, List.getElem_cons_zero, List.getElem_cons_succ, List.setIfInBounds_toArray, List.set_cons_zero, List.set_cons_succ]
  refine wpAnyH_ready (rs := [59]) (by as_aux_lemma => kernel_rfl) (by simp) ?_
  refine AllReadyH.cons rfl (fun K hK => ?_) AllReadyH.nil
  go_simp
  refine (nodes_q (q := [⟨0, 1, 2, 5⟩, ⟨0, 1, 3, 4⟩]) H126.out.1.1).mono ?_
  intro e u127 hp
  obtain ⟨he, H127⟩ := lg_held (v := .int .i64 2) H126.out hp
  subst he
  clear hp
  refine hK.out _ _ (LGc.out _ _ H127.out) (fun hHeld127 => ?_)
  clear hK K
  try simp only [Act.put, List.getElem_toArray, List.getElem_cons_zero, List.getElem_cons_succ, List.setIfInBounds_toArray, List.set_cons_zero, List.set_cons_succ]
  refine wpAnyH_take (i := 60) (v := ?_) rfl (by as_aux_lemma => kernel_rfl) (by as_aux_lemma => kernel_rfl) (by as_aux_lemma => kernel_rfl) (fun _ _ _ h => h) (Or.inl ⟨by as_aux_lemma => rfl, ?yz60⟩) (by assumption) ?qz60
  case yz60 => (intro wz hSw; (try dsimp only at hSw); go_simp <;> with_reducible rfl)
  try simp only [Act.put, List.getElem_toArray, List.getElem_cons_zero, List.getElem_cons_succ, List.setIfInBounds_toArray, List.set_cons_zero, List.set_cons_succ]
  refine wpAnyH_take (i := 61) (v := ?_) rfl (by as_aux_lemma => kernel_rfl) (by as_aux_lemma => kernel_rfl) (by as_aux_lemma => kernel_rfl) (fun _ _ _ h => h) (Or.inl ⟨by as_aux_lemma => rfl, ?yz61⟩) (by assumption) ?qz61
  case yz61 => (intro wz hSw; (try dsimp only at hSw); go_simp <;> with_reducible rfl)
  try simp only [Act.put, List.getElem_toArray, List.getElem_cons_zero, List.getElem_cons_succ, List.setIfInBounds_toArray, List.set_cons_zero, List.set_cons_succ]
  refine wpAnyH_take (i := 62) (v := ?_) rfl (by as_aux_lemma => kernel_rfl) (by as_aux_lemma => kernel_rfl) (by as_aux_lemma => kernel_rfl) (fun _ _ _ h => h) (Or.inl ⟨by as_aux_lemma => rfl, ?yz62⟩) (by assumption) ?qz62
  case yz62 => (intro wz hSw; (try dsimp only at hSw); go_simp <;> with_reducible rfl)
  try simp only [Act.put, List.getElem_toArray, List.getElem_cons_zero, List.getElem_cons_succ, List.setIfInBounds_toArray, List.set_cons_zero, List.set_cons_succ]
  refine wpAnyH_take (i := 63) (v := ?_) rfl (by as_aux_lemma => kernel_rfl) (by as_aux_lemma => kernel_rfl) (by as_aux_lemma => kernel_rfl) (fun _ _ _ h => h) (Or.inl ⟨by as_aux_lemma => rfl, ?yz63⟩) (by assumption) ?qz63
  case yz63 => (intro wz hSw; (try dsimp only at hSw); go_simp <;> with_reducible rfl)
  try simp only [Act.put, List.getElem_toArray, List.getElem_cons_zero, List.getElem_cons_succ, List.setIfInBounds_toArray, List.set_cons_zero, List.set_cons_succ]
  refine wpAnyH_ready (rs := [64]) (by as_aux_lemma => kernel_rfl) (by simp) ?_
  refine AllReadyH.cons rfl (fun K hK => ?_) AllReadyH.nil
  go_simp
  refine (len_q (q := [⟨0, 1, 2, 5⟩, ⟨0, 1, 3, 4⟩]) H127.out.1.1).mono ?_
  intro e u128 hp
  obtain ⟨he, H128⟩ := lg_held (v := .int .i64 2) H127.out hp
  subst he
  clear hp
  refine hK.out _ _ (LGc.out _ _ H128.out) (fun hHeld128 => ?_)
  clear hK K
  try simp only [Act.put, List.getElem_toArray, List.getElem_cons_zero, List.getElem_cons_succ, List.setIfInBounds_toArray, List.set_cons_zero, List.set_cons_succ]
  refine wpAnyH_take (i := 65) (v := ?_) rfl (by as_aux_lemma => kernel_rfl) (by as_aux_lemma => kernel_rfl) (by as_aux_lemma => kernel_rfl) (fun _ _ _ h => h) (Or.inl ⟨by as_aux_lemma => rfl, ?yz65⟩) (by assumption) ?qz65
  case yz65 => (intro wz hSw; (try dsimp only at hSw); go_simp <;> with_reducible rfl)
  try simp only [Act.put, List.getElem_toArray, List.getElem_cons_zero, List.getElem_cons_succ, List.setIfInBounds_toArray, List.set_cons_zero, List.set_cons_succ]
  refine wpAnyH_take (i := 66) (v := ?_) rfl (by as_aux_lemma => kernel_rfl) (by as_aux_lemma => kernel_rfl) (by as_aux_lemma => kernel_rfl) (fun _ _ _ h => h) (Or.inl ⟨by as_aux_lemma => rfl, ?yz66⟩) (by assumption) ?qz66
  case yz66 => (intro wz hSw; (try dsimp only at hSw); go_simp <;> with_reducible rfl)
  try simp only [Act.put, List.getElem_toArray, List.getElem_cons_zero, List.getElem_cons_succ, List.setIfInBounds_toArray, List.set_cons_zero, List.set_cons_succ]
  refine wpAnyH_take (i := 67) (v := ?_) rfl (by as_aux_lemma => kernel_rfl) (by as_aux_lemma => kernel_rfl) (by as_aux_lemma => kernel_rfl) (fun _ _ _ h => h) (Or.inl ⟨by as_aux_lemma => rfl, ?yz67⟩) (by assumption) ?qz67
  case yz67 => (intro wz hSw; (try dsimp only at hSw); go_simp <;> with_reducible rfl)
  try simp only [Act.put, List.getElem_toArray, List.getElem_cons_zero, List.getElem_cons_succ, List.setIfInBounds_toArray, List.set_cons_zero, List.set_cons_succ]
  refine wpAnyH_take (i := 68) (v := ?_) rfl (by as_aux_lemma => kernel_rfl) (by as_aux_lemma => kernel_rfl) (by as_aux_lemma => kernel_rfl) (fun _ _ _ h => h) (Or.inl ⟨by as_aux_lemma => rfl, ?yz68⟩) (by assumption) ?qz68
  case yz68 => (intro wz hSw; (try dsimp only at hSw); go_simp <;> with_reducible rfl)
  try simp only [Act.put, List.getElem_toArray, List.getElem_cons_zero, List.getElem_cons_succ, List.setIfInBounds_toArray, List.set_cons_zero, List.set_cons_succ]
  refine wpAnyH_take (i := 69) (v := ?_) rfl (by as_aux_lemma => kernel_rfl) (by as_aux_lemma => kernel_rfl) (by as_aux_lemma => kernel_rfl) (fun _ _ _ h => h) (Or.inl ⟨by as_aux_lemma => rfl, ?yz69⟩) (by assumption) ?qz69
  case yz69 => (intro wz hSw; (try dsimp only at hSw); go_simp <;> with_reducible rfl)
  try simp only [Act.put, List.getElem_toArray, List.getElem_cons_zero, List.getElem_cons_succ, List.setIfInBounds_toArray, List.set_cons_zero, List.set_cons_succ]
  refine wpAnyH_ready (rs := [70]) (by as_aux_lemma => kernel_rfl) (by simp) ?_
  refine AllReadyH.cons rfl (fun K hK => ?_) AllReadyH.nil
  go_simp
  refine (has_q (q := [⟨0, 1, 2, 5⟩, ⟨0, 1, 3, 4⟩]) H128.out.1.1 (by omega) ⟨0, 1, 2, 5⟩).mono ?_
  intro e u129 hp
  obtain ⟨he, H129⟩ := lg_held (v := .bool true) H128.out ((show decide ((⟨0, 1, 2, 5⟩ : Arc) ∈ ([⟨0, 1, 2, 5⟩, ⟨0, 1, 3, 4⟩] : List Arc)) = true by decide +kernel) ▸ hp)
  subst he
  clear hp
  refine hK.out _ _ (LGc.out _ _ H129.out) (fun hHeld129 => ?_)
  clear hK K
  try simp only [Act.put, List.getElem_toArray, List.getElem_cons_zero, List.getElem_cons_succ, List.setIfInBounds_toArray, List.set_cons_zero, List.set_cons_succ]
  refine wpAnyH_take (i := 71) (v := ?_) rfl (by as_aux_lemma => kernel_rfl) (by as_aux_lemma => kernel_rfl) (by as_aux_lemma => kernel_rfl) (fun _ _ _ h => h) (Or.inl ⟨by as_aux_lemma => rfl, ?yz71⟩) (by assumption) ?qz71
  case yz71 => (intro wz hSw; (try dsimp only at hSw); go_simp <;> with_reducible rfl)
  try simp only [Act.put, List.getElem_toArray, List.getElem_cons_zero, List.getElem_cons_succ, List.setIfInBounds_toArray, List.set_cons_zero, List.set_cons_succ]
  refine wpAnyH_take (i := 72) (v := ?_) rfl (by as_aux_lemma => kernel_rfl) (by as_aux_lemma => kernel_rfl) (by as_aux_lemma => kernel_rfl) (fun _ _ _ h => h) (Or.inl ⟨by as_aux_lemma => rfl, ?yz72⟩) (by assumption) ?qz72
  case yz72 => (intro wz hSw; (try dsimp only at hSw); go_simp <;> with_reducible rfl)
  try simp only [Act.put, List.getElem_toArray, List.getElem_cons_zero, List.getElem_cons_succ, List.setIfInBounds_toArray, List.set_cons_zero, List.set_cons_succ]
  refine wpAnyH_take (i := 73) (v := ?_) rfl (by as_aux_lemma => kernel_rfl) (by as_aux_lemma => kernel_rfl) (by as_aux_lemma => kernel_rfl) (fun _ _ _ h => h) (Or.inl ⟨by as_aux_lemma => rfl, ?yz73⟩) (by assumption) ?qz73
  case yz73 => (intro wz hSw; (try dsimp only at hSw); go_simp <;> with_reducible rfl)
  try simp only [Act.put, List.getElem_toArray, List.getElem_cons_zero, List.getElem_cons_succ, List.setIfInBounds_toArray, List.set_cons_zero, List.set_cons_succ]
  refine wpAnyH_take (i := 74) (v := ?_) rfl (by as_aux_lemma => kernel_rfl) (by as_aux_lemma => kernel_rfl) (by as_aux_lemma => kernel_rfl) (fun _ _ _ h => h) (Or.inl ⟨by as_aux_lemma => rfl, ?yz74⟩) (by assumption) ?qz74
  case yz74 => (intro wz hSw; (try dsimp only at hSw); go_simp <;> with_reducible rfl)
  try simp only [Act.put, List.getElem_toArray, List.getElem_cons_zero, List.getElem_cons_succ, List.setIfInBounds_toArray, List.set_cons_zero, List.set_cons_succ]
  refine wpAnyH_ready (rs := [75]) (by as_aux_lemma => kernel_rfl) (by simp) ?_
  refine AllReadyH.cons rfl (fun K hK => ?_) AllReadyH.nil
  go_simp
  refine (lg_drop (q := [⟨0, 1, 2, 5⟩, ⟨0, 1, 3, 4⟩]) (q' := [⟨0, 1, 3, 4⟩]) H129.out ⟨0, 1, 2, 5⟩ 0 (by decide +kernel) (by decide +kernel)).mono ?_
  rintro e u130 ⟨rfl, H130⟩
  refine hK.out _ _ (LGc.out _ _ H130.out) (fun hHeld130 => ?_)
  clear hK K
  try simp only [Act.put, List.getElem_toArray, List.getElem_cons_zero, List.getElem_cons_succ, List.setIfInBounds_toArray, List.set_cons_zero, List.set_cons_succ]
  refine wpAnyH_take (i := 76) (v := ?_) rfl (by as_aux_lemma => kernel_rfl) (by as_aux_lemma => kernel_rfl) (by as_aux_lemma => kernel_rfl) (fun _ _ _ h => h) (Or.inl ⟨by as_aux_lemma => rfl, ?yz76⟩) (by assumption) ?qz76
  case yz76 => (intro wz hSw; (try dsimp only at hSw); go_simp <;> with_reducible rfl)
  try simp only [Act.put, List.getElem_toArray, List.getElem_cons_zero, List.getElem_cons_succ, List.setIfInBounds_toArray, List.set_cons_zero, List.set_cons_succ]
  refine wpAnyH_take (i := 77) (v := ?_) rfl (by as_aux_lemma => kernel_rfl) (by as_aux_lemma => kernel_rfl) (by as_aux_lemma => kernel_rfl) (fun _ _ _ h => h) (Or.inl ⟨by as_aux_lemma => rfl, ?yz77⟩) (by assumption) ?qz77
  case yz77 => (intro wz hSw; (try dsimp only at hSw); go_simp <;> with_reducible rfl)
  try simp only [Act.put, List.getElem_toArray, List.getElem_cons_zero, List.getElem_cons_succ, List.setIfInBounds_toArray, List.set_cons_zero, List.set_cons_succ]
  refine wpAnyH_take (i := 78) (v := ?_) rfl (by as_aux_lemma => kernel_rfl) (by as_aux_lemma => kernel_rfl) (by as_aux_lemma => kernel_rfl) (fun _ _ _ h => h) (Or.inl ⟨by as_aux_lemma => rfl, ?yz78⟩) (by assumption) ?qz78
  case yz78 => (intro wz hSw; (try dsimp only at hSw); go_simp <;> with_reducible rfl)
  try simp only [Act.put, List.getElem_toArray, List.getElem_cons_zero, List.getElem_cons_succ, List.setIfInBounds_toArray, List.set_cons_zero, List.set_cons_succ]
  refine wpAnyH_take (i := 79) (v := ?_) rfl (by as_aux_lemma => kernel_rfl) (by as_aux_lemma => kernel_rfl) (by as_aux_lemma => kernel_rfl) (fun _ _ _ h => h) (Or.inl ⟨by as_aux_lemma => rfl, ?yz79⟩) (by assumption) ?qz79
  case yz79 => (intro wz hSw; (try dsimp only at hSw); go_simp <;> with_reducible rfl)
  try simp only [Act.put, List.getElem_toArray, List.getElem_cons_zero, List.getElem_cons_succ, List.setIfInBounds_toArray, List.set_cons_zero, List.set_cons_succ]
  refine wpAnyH_take (i := 80) (v := ?_) rfl (by as_aux_lemma => kernel_rfl) (by as_aux_lemma => kernel_rfl) (by as_aux_lemma => kernel_rfl) (fun _ _ _ h => h) (Or.inl ⟨by as_aux_lemma => rfl, ?yz80⟩) (by assumption) ?qz80
  case yz80 => (intro wz hSw; (try dsimp only at hSw); go_simp <;> with_reducible rfl)
  try simp only [Act.put, List.getElem_toArray, List.getElem_cons_zero, List.getElem_cons_succ, List.setIfInBounds_toArray, List.set_cons_zero, List.set_cons_succ]
  refine wpAnyH_ready (rs := [81]) (by as_aux_lemma => kernel_rfl) (by simp) ?_
  refine AllReadyH.cons rfl (fun K hK => ?_) AllReadyH.nil
  go_simp
  refine (has_q (q := [⟨0, 1, 3, 4⟩]) H130.out.1.1 (by omega) ⟨0, 1, 2, 5⟩).mono ?_
  intro e u131 hp
  obtain ⟨he, H131⟩ := lg_held (v := .bool false) H130.out ((show decide ((⟨0, 1, 2, 5⟩ : Arc) ∈ ([⟨0, 1, 3, 4⟩] : List Arc)) = false by decide +kernel) ▸ hp)
  subst he
  clear hp
  refine hK.out _ _ (LGc.out _ _ H131.out) (fun hHeld131 => ?_)
  clear hK K
  try simp only [Act.put, List.getElem_toArray, List.getElem_cons_zero, List.getElem_cons_succ, List.setIfInBounds_toArray, List.set_cons_zero, List.set_cons_succ]
  refine wpAnyH_take (i := 82) (v := ?_) rfl (by as_aux_lemma => kernel_rfl) (by as_aux_lemma => kernel_rfl) (by as_aux_lemma => kernel_rfl) (fun _ _ _ h => h) (Or.inl ⟨by as_aux_lemma => rfl, ?yz82⟩) (by assumption) ?qz82
  case yz82 => (intro wz hSw; (try dsimp only at hSw); go_simp <;> with_reducible rfl)
  try simp only [Act.put, List.getElem_toArray, List.getElem_cons_zero, List.getElem_cons_succ, List.setIfInBounds_toArray, List.set_cons_zero, List.set_cons_succ]
  refine wpAnyH_take (i := 83) (v := ?_) rfl (by as_aux_lemma => kernel_rfl) (by as_aux_lemma => kernel_rfl) (by as_aux_lemma => kernel_rfl) (fun _ _ _ h => h) (Or.inl ⟨by as_aux_lemma => rfl, ?yz83⟩) (by assumption) ?qz83
  case yz83 => (intro wz hSw; (try dsimp only at hSw); go_simp <;> with_reducible rfl)
  try simp only [Act.put, List.getElem_toArray, List.getElem_cons_zero, List.getElem_cons_succ, List.setIfInBounds_toArray, List.set_cons_zero, List.set_cons_succ]
  refine wpAnyH_take (i := 84) (v := ?_) rfl (by as_aux_lemma => kernel_rfl) (by as_aux_lemma => kernel_rfl) (by as_aux_lemma => kernel_rfl) (fun _ _ _ h => h) (Or.inl ⟨by as_aux_lemma => rfl, ?yz84⟩) (by assumption) ?qz84
  case yz84 => (intro wz hSw; (try dsimp only at hSw); go_simp <;> with_reducible rfl)
  try simp only [Act.put, List.getElem_toArray, List.getElem_cons_zero, List.getElem_cons_succ, List.setIfInBounds_toArray, List.set_cons_zero, List.set_cons_succ]
  refine wpAnyH_take (i := 85) (v := ?_) rfl (by as_aux_lemma => kernel_rfl) (by as_aux_lemma => kernel_rfl) (by as_aux_lemma => kernel_rfl) (fun _ _ _ h => h) (Or.inl ⟨by as_aux_lemma => rfl, ?yz85⟩) (by assumption) ?qz85
  case yz85 => (intro wz hSw; (try dsimp only at hSw); go_simp <;> with_reducible rfl)
  try simp only [Act.put, List.getElem_toArray, List.getElem_cons_zero, List.getElem_cons_succ, List.setIfInBounds_toArray, List.set_cons_zero, List.set_cons_succ]
  refine wpAnyH_ready (rs := [86]) (by as_aux_lemma => kernel_rfl) (by simp) ?_
  refine AllReadyH.cons rfl (fun K hK => ?_) AllReadyH.nil
  go_simp
  refine (len_q (q := [⟨0, 1, 3, 4⟩]) H131.out.1.1).mono ?_
  intro e u132 hp
  obtain ⟨he, H132⟩ := lg_held (v := .int .i64 1) H131.out hp
  subst he
  clear hp
  refine hK.out _ _ (LGc.out _ _ H132.out) (fun hHeld132 => ?_)
  clear hK K
  try simp only [Act.put, List.getElem_toArray, List.getElem_cons_zero, List.getElem_cons_succ, List.setIfInBounds_toArray, List.set_cons_zero, List.set_cons_succ]
  refine wpAnyH_take (i := 87) (v := ?_) rfl (by as_aux_lemma => kernel_rfl) (by as_aux_lemma => kernel_rfl) (by as_aux_lemma => kernel_rfl) (fun _ _ _ h => h) (Or.inl ⟨by as_aux_lemma => rfl, ?yz87⟩) (by assumption) ?qz87
  case yz87 => (intro wz hSw; (try dsimp only at hSw); go_simp <;> with_reducible rfl)
  try simp only [Act.put, List.getElem_toArray, List.getElem_cons_zero, List.getElem_cons_succ, List.setIfInBounds_toArray, List.set_cons_zero, List.set_cons_succ]
  refine wpAnyH_take (i := 88) (v := ?_) rfl (by as_aux_lemma => kernel_rfl) (by as_aux_lemma => kernel_rfl) (by as_aux_lemma => kernel_rfl) (fun _ _ _ h => h) (Or.inl ⟨by as_aux_lemma => rfl, ?yz88⟩) (by assumption) ?qz88
  case yz88 => (intro wz hSw; (try dsimp only at hSw); go_simp <;> with_reducible rfl)
  try simp only [Act.put, List.getElem_toArray, List.getElem_cons_zero, List.getElem_cons_succ, List.setIfInBounds_toArray, List.set_cons_zero, List.set_cons_succ]
  refine wpAnyH_take (i := 89) (v := ?_) rfl (by as_aux_lemma => kernel_rfl) (by as_aux_lemma => kernel_rfl) (by as_aux_lemma => kernel_rfl) (fun _ _ _ h => h) (Or.inl ⟨by as_aux_lemma => rfl, ?yz89⟩) (by assumption) ?qz89
  case yz89 => (intro wz hSw; (try dsimp only at hSw); go_simp <;> with_reducible rfl)
  try simp only [Act.put, List.getElem_toArray, List.getElem_cons_zero, List.getElem_cons_succ, List.setIfInBounds_toArray, List.set_cons_zero, List.set_cons_succ]
  refine wpAnyH_take (i := 90) (v := ?_) rfl (by as_aux_lemma => kernel_rfl) (by as_aux_lemma => kernel_rfl) (by as_aux_lemma => kernel_rfl) (fun _ _ _ h => h) (Or.inl ⟨by as_aux_lemma => rfl, ?yz90⟩) (by assumption) ?qz90
  case yz90 => (intro wz hSw; (try dsimp only at hSw); go_simp <;> with_reducible rfl)
  try simp only [Act.put, List.getElem_toArray, List.getElem_cons_zero, List.getElem_cons_succ, List.setIfInBounds_toArray, List.set_cons_zero, List.set_cons_succ]
  refine wpAnyH_take (i := 91) (v := ?_) rfl (by as_aux_lemma => kernel_rfl) (by as_aux_lemma => kernel_rfl) (by as_aux_lemma => kernel_rfl) (fun _ _ _ h => h) (Or.inl ⟨by as_aux_lemma => rfl, ?yz91⟩) (by assumption) ?qz91
  case yz91 => (intro wz hSw; (try dsimp only at hSw); go_simp <;> with_reducible rfl)
  try simp only [Act.put, List.getElem_toArray, List.getElem_cons_zero, List.getElem_cons_succ, List.setIfInBounds_toArray, List.set_cons_zero, List.set_cons_succ]
  refine wpAnyH_ready (rs := [92]) (by as_aux_lemma => kernel_rfl) (by simp) ?_
  refine AllReadyH.cons rfl (fun K hK => ?_) AllReadyH.nil
  go_simp
  refine (add_bad (n := 0) (m := 0) (.inl ⟨rfl, rfl, rfl⟩) (f := 0) (t := 1) (k := 2) (l := 5) (by unfold rightA; omega)).mono ?_
  intro e u133 hp
  obtain ⟨he, H133⟩ := lg_held (v := .int .i64 1) H132.out hp
  subst he
  clear hp
  refine hK.out _ _ (LGc.out _ _ H133.out) (fun hHeld133 => ?_)
  clear hK K
  try simp only [Act.put, List.getElem_toArray, List.getElem_cons_zero, List.getElem_cons_succ, List.setIfInBounds_toArray, List.set_cons_zero, List.set_cons_succ]
  refine wpAnyH_take (i := 93) (v := ?_) rfl (by as_aux_lemma => kernel_rfl) (by as_aux_lemma => kernel_rfl) (by as_aux_lemma => kernel_rfl) (fun _ _ _ h => h) (Or.inl ⟨by as_aux_lemma => rfl, ?yz93⟩) (by assumption) ?qz93
  case yz93 => (intro wz hSw; (try dsimp only at hSw); go_simp <;> with_reducible rfl)
  try simp only [Act.put, List.getElem_toArray, List.getElem_cons_zero, List.getElem_cons_succ, List.setIfInBounds_toArray, List.set_cons_zero, List.set_cons_succ]
  refine wpAnyH_take (i := 94) (v := ?_) rfl (by as_aux_lemma => kernel_rfl) (by as_aux_lemma => kernel_rfl) (by as_aux_lemma => kernel_rfl) (fun _ _ _ h => h) (Or.inl ⟨by as_aux_lemma => rfl, ?yz94⟩) (by assumption) ?qz94
  case yz94 => (intro wz hSw; (try dsimp only at hSw); go_simp <;> with_reducible rfl)
  try simp only [Act.put, List.getElem_toArray, List.getElem_cons_zero, List.getElem_cons_succ, List.setIfInBounds_toArray, List.set_cons_zero, List.set_cons_succ]
  refine wpAnyH_take (i := 95) (v := ?_) rfl (by as_aux_lemma => kernel_rfl) (by as_aux_lemma => kernel_rfl) (by as_aux_lemma => kernel_rfl) (fun _ _ _ h => h) (Or.inl ⟨by as_aux_lemma => rfl, ?yz95⟩) (by assumption) ?qz95
  case yz95 => (intro wz hSw; (try dsimp only at hSw); go_simp <;> with_reducible rfl)
  try simp only [Act.put, List.getElem_toArray, List.getElem_cons_zero, List.getElem_cons_succ, List.setIfInBounds_toArray, List.set_cons_zero, List.set_cons_succ]
  refine wpAnyH_take (i := 96) (v := ?_) rfl (by as_aux_lemma => kernel_rfl) (by as_aux_lemma => kernel_rfl) (by as_aux_lemma => kernel_rfl) (fun _ _ _ h => h) (Or.inl ⟨by as_aux_lemma => rfl, ?yz96⟩) (by assumption) ?qz96
  case yz96 => (intro wz hSw; (try dsimp only at hSw); go_simp <;> with_reducible rfl)
  try simp only [Act.put, List.getElem_toArray, List.getElem_cons_zero, List.getElem_cons_succ, List.setIfInBounds_toArray, List.set_cons_zero, List.set_cons_succ]
  refine wpAnyH_ready (rs := [97]) (by as_aux_lemma => kernel_rfl) (by simp) ?_
  refine AllReadyH.cons rfl (fun K hK => ?_) AllReadyH.nil
  go_simp
  refine (nodes_any (n := 0) (m := 0) (.inl ⟨rfl, rfl, rfl⟩)).mono ?_
  intro e u134 hp
  obtain ⟨he, H134⟩ := lg_held (v := .int .i64 0) H133.out hp
  subst he
  clear hp
  refine hK.out _ _ (LGc.out _ _ H134.out) (fun hHeld134 => ?_)
  clear hK K
  try simp only [Act.put, List.getElem_toArray, List.getElem_cons_zero, List.getElem_cons_succ, List.setIfInBounds_toArray, List.set_cons_zero, List.set_cons_succ]
  refine wpAnyH_take (i := 98) (v := ?_) rfl (by as_aux_lemma => kernel_rfl) (by as_aux_lemma => kernel_rfl) (by as_aux_lemma => kernel_rfl) (fun _ _ _ h => h) (Or.inl ⟨by as_aux_lemma => rfl, ?yz98⟩) (by assumption) ?qz98
  case yz98 => (intro wz hSw; (try dsimp only at hSw); go_simp <;> with_reducible rfl)
  try simp only [Act.put, List.getElem_toArray, List.getElem_cons_zero, List.getElem_cons_succ, List.setIfInBounds_toArray, List.set_cons_zero, List.set_cons_succ]
  refine wpAnyH_take (i := 99) (v := ?_) rfl (by as_aux_lemma => kernel_rfl) (by as_aux_lemma => kernel_rfl) (by as_aux_lemma => kernel_rfl) (fun _ _ _ h => h) (Or.inl ⟨by as_aux_lemma => rfl, ?yz99⟩) (by assumption) ?qz99
  case yz99 => (intro wz hSw; (try dsimp only at hSw); go_simp <;> with_reducible rfl)
  try simp only [Act.put, List.getElem_toArray, List.getElem_cons_zero, List.getElem_cons_succ, List.setIfInBounds_toArray, List.set_cons_zero, List.set_cons_succ]
  refine wpAnyH_take (i := 100) (v := ?_) rfl (by as_aux_lemma => kernel_rfl) (by as_aux_lemma => kernel_rfl) (by as_aux_lemma => kernel_rfl) (fun _ _ _ h => h) (Or.inl ⟨by as_aux_lemma => rfl, ?yz100⟩) (by assumption) ?qz100
  case yz100 => (intro wz hSw; (try dsimp only at hSw); go_simp <;> with_reducible rfl)
  try simp only [Act.put, List.getElem_toArray, List.getElem_cons_zero, List.getElem_cons_succ, List.setIfInBounds_toArray, List.set_cons_zero, List.set_cons_succ]
  refine wpAnyH_take (i := 101) (v := ?_) rfl (by as_aux_lemma => kernel_rfl) (by as_aux_lemma => kernel_rfl) (by as_aux_lemma => kernel_rfl) (fun _ _ _ h => h) (Or.inl ⟨by as_aux_lemma => rfl, ?yz101⟩) (by assumption) ?qz101
  case yz101 => (intro wz hSw; (try dsimp only at hSw); go_simp <;> with_reducible rfl)
  try simp only [Act.put, List.getElem_toArray, List.getElem_cons_zero, List.getElem_cons_succ, List.setIfInBounds_toArray, List.set_cons_zero, List.set_cons_succ]
  refine wpAnyH_ready (rs := [102]) (by as_aux_lemma => kernel_rfl) (by simp) ?_
  refine AllReadyH.cons rfl (fun K hK => ?_) AllReadyH.nil
  go_simp
  refine (next_out (n := 0) (m := 0) (x := 0) (.inl ⟨rfl, rfl, rfl⟩) (by omega) 14).mono ?_
  intro e u135 hp
  obtain ⟨he, H135⟩ := lg_held (v := .slice none 0 0) H134.out hp
  subst he
  clear hp
  refine hK.out _ _ (LGc.out _ _ H135.out) (fun hHeld135 => ?_)
  clear hK K
  try simp only [Act.put, List.getElem_toArray, List.getElem_cons_zero, List.getElem_cons_succ, List.setIfInBounds_toArray, List.set_cons_zero, List.set_cons_succ]
  refine wpAnyH_take (i := 103) (v := ?_) rfl (by as_aux_lemma => kernel_rfl) (by as_aux_lemma => kernel_rfl) (by as_aux_lemma => kernel_rfl) (fun _ _ _ h => h) (Or.inl ⟨by as_aux_lemma => rfl, ?yz103⟩) (by assumption) ?qz103
  case yz103 => (intro wz hSw; (try dsimp only at hSw); go_simp <;> with_reducible rfl)
  try simp only [Act.put, List.getElem_toArray, List.getElem_cons_zero, List.getElem_cons_succ, List.setIfInBounds_toArray, List.set_cons_zero, List.set_cons_succ]
  refine wpAnyH_take (i := 104) (v := ?_) rfl (by as_aux_lemma => kernel_rfl) (by as_aux_lemma => kernel_rfl) (by as_aux_lemma => kernel_rfl) (fun _ _ _ h => h) (Or.inl ⟨by as_aux_lemma => rfl, ?yz104⟩) (by assumption) ?qz104
  case yz104 => (intro wz hSw; (try dsimp only at hSw); go_simp <;> with_reducible rfl)
  try simp only [Act.put, List.getElem_toArray, List.getElem_cons_zero, List.getElem_cons_succ, List.setIfInBounds_toArray, List.set_cons_zero, List.set_cons_succ]
  refine wpAnyH_take (i := 105) (v := ?_) rfl (by as_aux_lemma => kernel_rfl) (by as_aux_lemma => kernel_rfl) (by as_aux_lemma => kernel_rfl) (fun _ _ _ h => h) (Or.inl ⟨by as_aux_lemma => rfl, ?yz105⟩) (by assumption) ?qz105
  case yz105 => (intro wz hSw; (try dsimp only at hSw); go_simp <;> with_reducible rfl)
  try simp only [Act.put, List.getElem_toArray, List.getElem_cons_zero, List.getElem_cons_succ, List.setIfInBounds_toArray, List.set_cons_zero, List.set_cons_succ]
  refine wpAnyH_take (i := 106) (v := ?_) rfl (by as_aux_lemma => kernel_rfl) (by as_aux_lemma => kernel_rfl) (by as_aux_lemma => kernel_rfl) (fun _ _ _ h => h) (Or.inl ⟨by as_aux_lemma => rfl, ?yz106⟩) (by assumption) ?qz106
  case yz106 => (intro wz hSw; (try dsimp only at hSw); go_simp <;> with_reducible rfl)
  try simp only [Act.put, List.getElem_toArray, List.getElem_cons_zero, List.getElem_cons_succ, List.setIfInBounds_toArray, List.set_cons_zero, List.set_cons_succ]
  refine wpAnyH_take (i := 107) (v := ?_) rfl (by as_aux_lemma => kernel_rfl) (by as_aux_lemma => kernel_rfl) (by as_aux_lemma => kernel_rfl) (fun _ _ _ h => h) (Or.inl ⟨by as_aux_lemma => rfl, ?yz107⟩) (by assumption) ?qz107
  case yz107 => (intro wz hSw; (try dsimp only at hSw); go_simp <;> with_reducible rfl)
  try simp only [Act.put, List.getElem_toArray, List.getElem_cons_zero, List.getElem_cons_succ, List.setIfInBounds_toArray, List.set_cons_zero, List.set_cons_succ]
  refine wpAnyH_take (i := 108) (v := ?_) rfl (by as_aux_lemma => kernel_rfl) (by as_aux_lemma => kernel_rfl) (by as_aux_lemma => kernel_rfl) (fun _ _ _ h => h) (Or.inl ⟨by as_aux_lemma => rfl, ?yz108⟩) (by assumption) ?qz108
  case yz108 => (intro wz hSw; (try dsimp only at hSw); go_simp <;> with_reducible rfl)
  try simp only [Act.put, List.getElem_toArray, List.getElem_cons_zero, List.getElem_cons_succ, List.setIfInBounds_toArray, List.set_cons_zero, List.set_cons_succ]
  refine wpAnyH_ready (rs := [109]) (by as_aux_lemma => kernel_rfl) (by simp) ?_
  refine AllReadyH.cons rfl (fun K hK => ?_) AllReadyH.nil
  go_simp
  refine (drop_bad (n := 0) (m := 0) (.inl ⟨rfl, rfl, rfl⟩) (f := 0) (t := 1) (k := 2) (l := 5) (by unfold rightA; omega)).mono ?_
  intro e u136 hp
  obtain ⟨he, H136⟩ := lg_held (v := .int .i64 3) H135.out hp
  subst he
  clear hp
  refine hK.out _ _ (LGc.out _ _ H136.out) (fun hHeld136 => ?_)
  clear hK K
  try simp only [Act.put, List.getElem_toArray, List.getElem_cons_zero, List.getElem_cons_succ, List.setIfInBounds_toArray, List.set_cons_zero, List.set_cons_succ]
  refine wpAnyH_take (i := 110) (v := ?_) rfl (by as_aux_lemma => kernel_rfl) (by as_aux_lemma => kernel_rfl) (by as_aux_lemma => kernel_rfl) (fun _ _ _ h => h) (Or.inl ⟨by as_aux_lemma => rfl, ?yz110⟩) (by assumption) ?qz110
  case yz110 => (intro wz hSw; (try dsimp only at hSw); go_simp <;> with_reducible rfl)
  try simp only [Act.put, List.getElem_toArray, List.getElem_cons_zero, List.getElem_cons_succ, List.setIfInBounds_toArray, List.set_cons_zero, List.set_cons_succ]
  refine wpAnyH_take (i := 111) (v := ?_) rfl (by as_aux_lemma => kernel_rfl) (by as_aux_lemma => kernel_rfl) (by as_aux_lemma => kernel_rfl) (fun _ _ _ h => h) (Or.inl ⟨by as_aux_lemma => rfl, ?yz111⟩) (by assumption) ?qz111
  case yz111 => (intro wz hSw; (try dsimp only at hSw); go_simp <;> with_reducible rfl)
  try simp only [Act.put, List.getElem_toArray, List.getElem_cons_zero, List.getElem_cons_succ, List.setIfInBounds_toArray, List.set_cons_zero, List.set_cons_succ]
  refine wpAnyH_take (i := 112) (v := ?_) rfl (by as_aux_lemma => kernel_rfl) (by as_aux_lemma => kernel_rfl) (by as_aux_lemma => kernel_rfl) (fun _ _ _ h => h) (Or.inl ⟨by as_aux_lemma => rfl, ?yz112⟩) (by assumption) ?qz112
  case yz112 => (intro wz hSw; (try dsimp only at hSw); go_simp <;> with_reducible rfl)
  try simp only [Act.put, List.getElem_toArray, List.getElem_cons_zero, List.getElem_cons_succ, List.setIfInBounds_toArray, List.set_cons_zero]
  refine wpAnyH_done (by as_aux_lemma => kernel_rfl) ?_ _
  have HE := Lib.hid H136.out.1.2.2
  clear LGc
  go_wp2
  go_ret
  exact ⟨rfl, HE.out⟩
end Go.Proofs.Ytpgfkggfgkafjaa.Gr
