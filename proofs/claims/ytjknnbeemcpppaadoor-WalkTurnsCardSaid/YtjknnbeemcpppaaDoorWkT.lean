/-
  Walks: contract of the program's Turn. Not a statement of the seat.
-/
import Derived.Test.YtjknnbeemcpppaaDoorWkC
import Derived.Test.YtjknnbeemcpppaaDoorWk8
import Derived.Deep.RegionHeld3
namespace Go.Proofs.YtjknnbeemcpppaaDoor.Wk
open Go.ChangeShapes Go.WideShapes Go.ChangeAt Go.RowKit Base Pk F
theorem ownE_mono {B B' : Nat} {w : World} {v : Value} {zs : List E} (h : OwnE B w v zs) (hb : B' ≤ B) : OwnE B' w v zs := by
  refine ⟨h.1, ?_⟩
  rcases h.2 with hz | ⟨g, cap, cur, hv, hB, rest⟩
  · exact .inl hz
  · exact .inr ⟨g, cap, cur, hv, Nat.le_trans hb hB, rest⟩
set_option maxRecDepth 100000 in
set_option maxHeartbeats 4000000 in
theorem least_zero (fv : Value) (w : World) : Calls Tryd.prog 27 #[.int .i64 0, fv] w fun e w' => e = .returned (.int .i64 0) ∧ w = w' := by
  go_enter Tryd.func27, Tryd.ntmps27
  go_wp2_with fail
  go_loopw [5, 6, 7] (fun s5 s6 s7 wr => s5 = .int .i64 0 ∧ s6 = .int .i64 1 ∧ s7 = .int .i64 0 ∧ w = wr) (fun _ _ _ _ => 0)
  case atStart => exact ⟨rfl, rfl, rfl, rfl⟩
  case round =>
    obtain ⟨rfl, rfl, rfl, rfl⟩ := hrel
    go_wp2_with fail
    go_ret
    exact ⟨rfl, rfl⟩
/-- Where the first turn begins. -/
theorem least_turn {w : World} {b n : Nat} {p : Option Addr} {c : Nat} {l : List E} (hbx : w.heap[b]? = some (.cells #[.slice p n c] 22)) (h : Eds w (.slice p n c) l) (hn : l.length = n) (hl : n ≤ 1000) :
    Calls Tryd.prog 27 #[.int .i64 (n : Int), .func (.func 28) #[] #[.pointer (some ⟨b, 0, none⟩)]] w fun e w' => ∃ m : Nat, e = .returned (.int .i64 (m : Int)) ∧ (m ≤ n ∧ rot l m = turnL ltE l) ∧ Below w.heap.size w w' := by
  rcases Nat.eq_zero_or_pos n with h0 | h0
  · subst h0
    refine (least_zero _ w).mono ?_
    rintro e w' ⟨rfl, rfl⟩
    have : l = [] := List.length_eq_zero_iff.1 hn
    subst this
    exact ⟨0, rfl, ⟨Nat.le_refl _, rfl⟩, Below.refl _ _⟩
  · refine (least_any hbx h hn hl h0).mono ?_
    rintro e w' ⟨m, rfl, hf, hb⟩
    refine ⟨m, rfl, ⟨Nat.le_of_lt hf.1, ?_⟩, hb⟩
    rw [← hn] at hf
    exact ((turnL_is totL l).uniq totL (isTurn_first totL hf)).symm
set_option maxRecDepth 100000 in
set_option maxHeartbeats 8000000 in
theorem turn_any {v : Value} {l : List E} {n : Nat} (w : World) (h : Eds w v l) (hn : l.length = n) (hl : n ≤ 1000) (hcp : Capd v) : Calls Tryd.prog 16 #[v] w (OwnP (turnL ltE l) w) := by
  obtain ⟨p, c, rfl, _⟩ := eds_at h hn
  have hcap := hcp _ _ _ rfl
  have HP : Hid (∀ m, m ≤ n → (∀ wx, (Instr.sliceAt 22 (.slice p n c) (some (.int .i64 (m : Int))) none none).run Tryd.prog wx = .ok (sliced p m n c 4) wx) ∧ (∀ wx, (Instr.sliceAt 22 (.slice p n c) none (some (.int .i64 (m : Int))) none).run Tryd.prog wx = .ok (.slice p m c) wx) ∧ Eds w (sliced p m n c 4) (l.drop m) ∧ Eds w (.slice p m c) (l.take m) ∧ Capd (sliced p m n c 4) ∧ Capd (.slice p m c) ∧ (l.drop m).length = n - m ∧ (l.take m).length = m) := Lib.hid fun m hm => ⟨slice_drop p n c m hm, slice_take p n c m (by omega), eds_drop h hn m hm hcap.1, eds_take h m hm hcap.1, sliced_capd hcap m n hm (Nat.le_refl _), take_capd hcap m hm, by rw [List.length_drop, hn], by rw [List.length_take]; omega⟩
  obtain ⟨w1, hw1⟩ : ∃ X, X = w.alloc (.cells #[.slice p n c] 22) := ⟨_, rfl⟩
  have HB1 : Hid (Below w.heap.size w w1) := Lib.hid (by rw [hw1]; exact alloc_bel w _)
  have HBX : Hid (w1.heap[w.heap.size]? = some (.cells #[.slice p n c] 22)) := Lib.hid (by rw [hw1]; exact heap_alloc_at _ _ _ rfl)
  have HLE := Lib.hid (least_turn HBX.out (h.below HB1.out) hn hl)
  have hbl := heap_lt HBX.out
  have c0 : w1.cell? ⟨w.heap.size, 0, none⟩ = some (.slice p n c) := by simp [World.cell?, HBX.out]
  clear h hn hcp hcap
  go_enter Tryd.func16, Tryd.ntmps16
  go_upto_region 1 with fail
  rw [← hw1]
  clear hw1
  go_wp2_with fail
  refine HLE.out.mono ?_
  rintro e w2 ⟨m, rfl, ⟨hm, hrot⟩, hb2⟩
  obtain ⟨hs1, hs2, hd, ht, hc1, hc2, hl1, hl2⟩ := HP.out m hm
  obtain ⟨q, hq⟩ := sliced_form p m n c
  rw [hq] at hs1 hd hc1
  have HB2 : Hid (Below w.heap.size w w2) := Lib.hid (HB1.out.trans (hb2.mono HB1.out.size))
  have HCC : Hid (∀ (g : Nat) (X : World), Below w2.heap.size w2 X → X.heap[g]? = some (.cells #[.slice q (n - m) (c - m), .slice p m c] 22) → Calls Tryd.prog 29 #[.slice (some ⟨g, 0, none⟩) 2 2] X (OwnP (turnL ltE l) X)) := Lib.hid fun g X hX hg => by
    have hbx := HB2.out.trans (hX.mono HB2.out.size)
    have := concat_any hg (hd.below hbx) (ht.below hbx) (fun e => (hc1 _ _ _ rfl).2 e) (fun e => (hc2 _ _ _ rfl).2 e) hl1 hl2 (by omega) (by omega)
    rwa [show l.drop m ++ l.take m = turnL ltE l from hrot] at this
  have HS : Hid (∀ X, Below w2.heap.size w2 X → w.heap.size < X.heap.size ∧ X.cell? ⟨w.heap.size, 0, none⟩ = some (.slice p n c)) := Lib.hid fun X hX => by
    have k := keep_block (hb2.trans (hX.mono hb2.size)) HBX.out
    exact ⟨heap_lt k, by simp [World.cell?, k]⟩
  have HFN : Hid (∀ X v W, Below w2.heap.size w2 X → OwnE X.heap.size W v (turnL ltE l) → Below X.heap.size X W → OwnP (turnL ltE l) w (.returned v) W) := Lib.hid fun X v W hX ho hW => by
    have hbx := HB2.out.trans (hX.mono HB2.out.size)
    exact ⟨v, rfl, ownE_mono ho hbx.size, hbx.trans (hW.mono hbx.size)⟩
  have hmi : (m : Int) ≤ (n : Int) := by omega
  clear hd ht hc1 hc2 hl1 hl2 hrot hb2 HP HLE HBX hbl c0 hq
  go_upto_region 2 with fail
  refine wp_region_held_drew (S := fun X => w.heap.size < X.heap.size ∧ X.cell? ⟨w.heap.size, 0, none⟩ = some (.slice p n c)) (by kernel_rfl) (HS.out _ (below_drewN (Below.refl _ _) 1)) (fun hHeld0 => ?_)
  refine wpAnyH_take (i := 0) (v := ?_) rfl (by kernel_rfl) (by kernel_rfl) (by kernel_rfl) (fun _ _ _ h => h) (Or.inl ⟨by rfl, ?ytt0⟩) (by assumption) ?qtt0
  case ytt0 => (intro wz hSw; (try dsimp only at hSw); go_simp <;> with_reducible rfl)
  try simp only [Act.put, List.getElem_toArray, List.getElem_cons_zero, List.setIfInBounds_toArray, List.set_cons_zero, List.set_cons_succ]
  refine wpAnyH_take (i := 1) (v := ?_) rfl (by kernel_rfl) (by kernel_rfl) (by kernel_rfl) (fun _ _ _ h => h) (Or.inl ⟨by rfl, ?ytt1⟩) (by assumption) ?qtt1
  case ytt1 => (intro wz hSw; (try dsimp only at hSw); go_simp <;> with_reducible rfl)
  try simp only [Act.put, List.getElem_toArray, List.getElem_cons_zero, List.getElem_cons_succ, List.setIfInBounds_toArray, List.set_cons_zero, List.set_cons_succ]
  refine wpAnyH_take (i := 2) (v := ?_) rfl (by kernel_rfl) (by kernel_rfl) (by kernel_rfl) (fun _ _ _ h => h) (Or.inl ⟨by rfl, ?ytt2⟩) (by assumption) ?qtt2
  case ytt2 => (intro wz hSw; (try dsimp only at hSw); go_simp <;> with_reducible rfl)
  try simp only [Act.put, List.getElem_toArray, List.getElem_cons_zero, List.getElem_cons_succ, List.setIfInBounds_toArray, List.set_cons_zero, List.set_cons_succ]
  refine wpAnyH_take (i := 3) (v := ?_) rfl (by kernel_rfl) (by kernel_rfl) (by kernel_rfl) (fun _ _ _ h => h) (Or.inl ⟨by rfl, ?ytt3⟩) (by assumption) ?qtt3
  case ytt3 => (intro wz hSw; (try dsimp only at hSw); go_simp <;> with_reducible rfl)
  try simp only [Act.put, List.getElem_toArray, List.getElem_cons_zero, List.getElem_cons_succ, List.setIfInBounds_toArray, List.set_cons_zero, List.set_cons_succ]
  refine wpAnyH_take (i := 4) (v := ?_) rfl (by kernel_rfl) (by kernel_rfl) (by kernel_rfl) (fun _ _ _ h => h) (Or.inl ⟨by rfl, ?ytt4⟩) (by assumption) ?qtt4
  case ytt4 => (intro wz hSw; (try dsimp only at hSw); go_simp <;> with_reducible rfl)
  try simp only [Act.put, List.getElem_toArray, List.getElem_cons_zero, List.getElem_cons_succ, List.setIfInBounds_toArray, List.set_cons_zero, List.set_cons_succ]
  refine wpAnyH_take (i := 5) (v := ?_) rfl (by kernel_rfl) (by kernel_rfl) (by kernel_rfl) (fun _ _ _ h => h) (Or.inl ⟨by rfl, ?ytt5⟩) (by assumption) ?qtt5
  case ytt5 => (intro wz hSw; (try dsimp only at hSw); go_simp <;> with_reducible rfl)
  try simp only [Act.put, List.getElem_toArray, List.getElem_cons_zero, List.getElem_cons_succ, List.setIfInBounds_toArray, List.set_cons_zero, List.set_cons_succ]
  refine wpAnyH_ready (rs := [6]) (by kernel_rfl) (by simp) ?_
  refine AllReadyH.cons rfl (fun K hK => ?_) AllReadyH.nil
  go_simp
  refine hK.out _ _ (HS.out _ ((below_drewN (Below.refl w2.heap.size w2) 1).alloc (Nat.le_refl _) _)) (fun hHeldtt6 => ?_)
  clear hK K
  try simp only [Act.put, List.getElem_toArray, List.getElem_cons_zero, List.getElem_cons_succ, List.setIfInBounds_toArray, List.set_cons_zero, List.set_cons_succ]
  refine wpAnyH_ready (rs := [7]) (by kernel_rfl) (by simp) ?_
  refine AllReadyH.cons rfl (fun K hK => ?_) AllReadyH.nil
  go_simp
  refine (HCC.out _ _ ((below_drewN (Below.refl w2.heap.size w2) 1).alloc (Nat.le_refl _) _) (heap_alloc_at _ _ _ (by simp))).mono ?_
  rintro e w5 ⟨v5, rfl, ho5, hb5⟩
  have HB5 := Lib.hid hb5
  have HO5 := Lib.hid ho5
  clear hb5 ho5
  refine hK.out _ _ (HS.out _ (((below_drewN (Below.refl w2.heap.size w2) 1).alloc (Nat.le_refl _) _).trans (HB5.out.mono (by simp)))) (fun hHeldtt7 => ?_)
  clear hK K
  try simp only [Act.put, List.getElem_toArray, List.getElem_cons_zero, List.getElem_cons_succ, List.setIfInBounds_toArray, List.set_cons_zero, List.set_cons_succ]
  refine wpAnyH_take (i := 8) (v := ?_) rfl (by kernel_rfl) (by kernel_rfl) (by kernel_rfl) (fun _ _ _ h => h) (Or.inl ⟨by rfl, ?ytt8⟩) (by assumption) ?qtt8
  case ytt8 => (intro wz hSw; (try dsimp only at hSw); go_simp <;> with_reducible rfl)
  try simp only [Act.put, List.getElem_toArray, List.getElem_cons_zero, List.getElem_cons_succ, List.setIfInBounds_toArray, List.set_cons_zero, List.set_cons_succ]
  refine wpAnyH_done (by kernel_rfl) ?_ _
  have HF := Lib.hid (HFN.out _ _ _ ((below_drewN (Below.refl w2.heap.size w2) 1).alloc (Nat.le_refl _) _) HO5.out HB5.out)
  clear hHeldtt7 hHeldtt6 hHeld0 HS HFN HCC HO5
  go_wp2
  go_ret
  exact HF.out
end Go.Proofs.YtjknnbeemcpppaaDoor.Wk
