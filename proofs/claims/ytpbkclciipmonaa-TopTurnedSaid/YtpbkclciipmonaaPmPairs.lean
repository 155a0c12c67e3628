/-
  Contracts of maps in an arena: pairs, List. Not a statement of the seat.
-/
import Derived.Test.YtpbkclciipmonaaPmMap
namespace Go.Proofs.Ytpbkclciipmonaa.F
open Go.ChangeShapes Go.WideShapes Go.ChangeAt Go.RowKit Base
/-- What pairs leaves: a longer list; all but the list that came in is as it was. -/
def PGP (Bs : Nat) (v0 : Value) (l : List Pai) (w : World) (e : Ending) (w' : World) : Prop := ∃ v', e = .returned v' ∧ OwnPai Bs w' v' l ∧ Fr (fun g => v0.ownBlock = some g) w w' ∧ Mv v0.ownBlock v'.ownBlock w
/-- What stays on the way. -/
def PQ (Bs : Nat) (pv : Value) (o : Option Nat) (room : Nat) (zs : List Cel) (w0 : World) (v0 : Value) (w : World) (v : Value) (l : List Pai) (bs : List (Nat × Obj)) : Prop :=
  ArV w pv o room zs ∧ OwnPai Bs w v l ∧ (∀ g, VF pv o g → v.ownBlock ≠ some g) ∧ Fr (fun g => v0.ownBlock = some g) w0 w ∧ Mv v0.ownBlock v.ownBlock w0 ∧ ∀ p ∈ bs, w.heap[p.1]? = some p.2 ∧ v.ownBlock ≠ some p.1
section
variable {Bs : Nat} {pv : Value} {o : Option Nat} {room : Nat} {zs : List Cel} {w0 w w' : World} {v0 v v' : Value} {l l' : List Pai} {bs : List (Nat × Obj)}
theorem PQ.start (h : ArV w pv o room zs) (ho : OwnPai Bs w v l) (hv : ∀ g, VF pv o g → v.ownBlock ≠ some g) : PQ Bs pv o room zs w v w v l [] := ⟨h, ho, hv, Fr.refl _ _, Mv.refl _ _, fun _ hp => (List.not_mem_nil hp).elim⟩
theorem PQ.below (h : PQ Bs pv o room zs w0 v0 w v l bs) (hb : Below w.heap.size w w') : PQ Bs pv o room zs w0 v0 w' v l bs :=
  ⟨h.1.below hb, h.2.1.below hb, h.2.2.1, h.2.2.2.1.trans (Fr.of_below (F := fun _ => False) hb) (fun _ _ e => e.elim), h.2.2.2.2.1, fun p hp => ⟨(hb.block _ (heap_lt (h.2.2.2.2.2 p hp).1)).trans (h.2.2.2.2.2 p hp).1, (h.2.2.2.2.2 p hp).2⟩⟩
theorem PQ.alloc (h : PQ Bs pv o room zs w0 v0 w v l bs) (ob : Obj) : PQ Bs pv o room zs w0 v0 (w.alloc ob) v l ((w.heap.size, ob) :: bs) := by
  have h2 := h.below ((Below.refl _ _).alloc (Nat.le_refl _) ob)
  refine ⟨h2.1, h2.2.1, h2.2.2.1, h2.2.2.2.1, h2.2.2.2.2.1, fun p hp => ?_⟩
  rcases List.mem_cons.1 hp with rfl | hp
  · exact ⟨heap_alloc_at _ _ _ rfl, fun k => Nat.lt_irrefl _ (h.2.1.base _ k).2⟩
  · exact h2.2.2.2.2.2 p hp
theorem PQ.upd (h : PQ Bs pv o room zs w0 v0 w v l bs) (ho : OwnPai Bs w' v' l') (hf : Fr (fun g => v.ownBlock = some g) w w') (hm : Mv v.ownBlock v'.ownBlock w) : PQ Bs pv o room zs w0 v0 w' v' l' bs := by
  obtain ⟨h1, h2, h3, h4, h5, h6⟩ := h
  refine ⟨h1.fr hf (fun g hv e => h3 g hv e), ho, fun g hv e => ?_, h4.trans hf (fun g hg e => ?_), h5.trans hm h4.size, fun p hp => ?_⟩
  · rcases hm with k | ⟨g', k, hg'⟩
    · exact h3 g hv (k.symm.trans e)
    · rw [k] at e; injection e with e; have := h1.lt g hv; omega
  · rcases h5 with k | ⟨g', k, hg'⟩
    · rw [← k]; exact e
    · rw [k] at e; injection e with e; omega
  · have := h6 p hp
    refine ⟨(hf.block (heap_lt this.1) this.2).trans this.1, fun e => ?_⟩
    rcases hm with k | ⟨g', k, hg'⟩
    · exact this.2 (k.symm.trans e)
    · rw [k] at e; injection e with e; have := heap_lt this.1; omega
theorem PQ.call {e : Ending} (h : PQ Bs pv o room zs w0 v0 w v l bs) (hp : PGP Bs v l' w e w') : ∃ v', e = .returned v' ∧ Hid (PQ Bs pv o room zs w0 v0 w' v' l' bs) := by
  obtain ⟨v', he, ho, hf, hm⟩ := hp
  exact ⟨v', he, Lib.hid (h.upd ho hf hm)⟩
theorem PQ.at_ (h : PQ Bs pv o room zs w0 v0 w v l bs) {g : Nat} {ob : Obj} (hp : (g, ob) ∈ bs) : w.heap[g]? = some ob := (h.2.2.2.2.2 (g, ob) hp).1
theorem PQ.done (h : PQ Bs pv o room zs w0 v0 w v l bs) : PGP Bs v0 l w0 (.returned v) w := ⟨v, rfl, h.2.1, h.2.2.2.1, h.2.2.2.2.1⟩
end
set_option maxHeartbeats 8000000 in
set_option maxRecDepth 100000 in
theorem pmpairs {Bs : Nat} {pv : Value} {o : Option Nat} {room : Nat} {zs : List Cel} (root : Int) : ∀ (t : Tre) (w : World) (v : Value) (l : List Pai) (i : Int), ArV w pv o room zs → Bs ≤ w.heap.size → Tr zs t i → OwnPai Bs w v l → (∀ g, VF pv o g → v.ownBlock ≠ some g) → l.length + t.size < 65536 →
    Calls Try.prog 63 #[.agg #[pv, .int .i64 root], v, .int .i64 i] w (PGP Bs v (l ++ t.list) w) := by
  intro t
  induction t with
  | nil =>
    intro w v l i h hB ht ho hv hl
    simp only [Tr] at ht
    subst ht
    obtain ⟨a, rfl⟩ := h.ptr
    have J0 := Lib.hid ((PQ.start h ho hv).alloc (boxM (.pointer a) root))
    obtain ⟨p, c, hvv⟩ : ∃ p c, v = .slice p l.length c := by
      rcases ho.2 with ⟨hv, h0⟩ | ⟨g, cap, cur, hv, _⟩
      · exact ⟨none, 0, by rw [hv, h0]⟩
      · exact ⟨_, _, hv⟩
    have HE : Hid (l ++ Tre.nil.list = l) := Lib.hid (List.append_nil _)
    rw [HE.out]
    clear h ho hv
    subst hvv
    go_enter Try.func63, Try.ntmps63
    go_wp2_with fail
    go_ret
    exact J0.out.done
  | node l' k x r ihl ihr =>
    intro w v l i h hB ht ho hv hl
    obtain ⟨a, rfl⟩ := h.ptr
    obtain ⟨hi, ia, ib, hcel, htl, htr⟩ := ht
    simp only [Tre.size] at hl
    have J0 := Lib.hid ((PQ.start h ho hv).alloc (boxM (.pointer a) root))
    have HC := Lib.hid (pmcell root i J0.out.1)
    rw [hcel] at HC
    generalize ((Tre.node l' k x r).size : Int) = cs at HC
    generalize ((Tre.node l' k x r).high : Int) = ch at HC
    have HE : Hid (l ++ (Tre.node l' k x r).list = (l ++ l'.list ++ [⟨k, x⟩]) ++ r.list) := Lib.hid (by simp [Tre.list])
    rw [HE.out]
    have hs1 := Tre.list_len l'
    obtain ⟨p, c, hvv⟩ : ∃ p c, v = .slice p l.length c := by
      rcases ho.2 with ⟨hv, h0⟩ | ⟨g, cap, cur, hv, _⟩
      · exact ⟨none, 0, by rw [hv, h0]⟩
      · exact ⟨_, _, hv⟩
    have HI : Hid (∀ (X : World) (u : Value), ArV X (.pointer a) o room zs → Bs ≤ X.heap.size → OwnPai Bs X u l → (∀ g, VF (.pointer a) o g → u.ownBlock ≠ some g) → Calls Try.prog 63 #[.agg #[.pointer a, .int .i64 root], u, .int .i64 ia] X (PGP Bs u (l ++ l'.list) X)) := Lib.hid fun X u h1 h2 h3 h4 => ihl X u l ia h1 h2 htl h3 h4 (by omega)
    have HJ : Hid (∀ (X : World) (u : Value), ArV X (.pointer a) o room zs → Bs ≤ X.heap.size → OwnPai Bs X u (l ++ l'.list ++ [⟨k, x⟩]) → (∀ g, VF (.pointer a) o g → u.ownBlock ≠ some g) → Calls Try.prog 63 #[.agg #[.pointer a, .int .i64 root], u, .int .i64 ib] X (PGP Bs u (l ++ l'.list ++ [⟨k, x⟩] ++ r.list) X)) := Lib.hid fun X u h1 h2 h3 h4 => ihr X u _ ib h1 h2 htr h3 h4 (by simp; omega)
    have hnz : (i == 0) = false := by rw [beq_eq_false_iff_ne]; omega
    have hnl : decide (65536 ≤ (l.length : Int)) = false := by rw [decide_eq_false_iff_not]; omega
    have HLN : Hid (l.length + l'.list.length ≤ 65536 ∧ Bs ≤ w.heap.size) := Lib.hid ⟨by omega, hB⟩
    clear h ho hv hcel htl htr ihl ihr hl hB hs1
    subst hvv
    go_enter Try.func63, Try.ntmps63
    go_wp2_with fail
    refine HC.out.mono ?_
    rintro e w1 ⟨rfl, hb⟩
    have J1 := Lib.hid ((J0.out.below hb).alloc (boxC ⟨ia, ib, k, x, cs, ch⟩))
    have hw1 : w.heap.size < w1.heap.size := by have := hb.size; simp at this; omega
    clear hb HC J0
    go_upto_region 4 with fail
    have J2 := Lib.hid (J1.out.below (Below.refl _ _).drew)
    refine wp_region_held_drew (S := (fun X => (X.cell? ⟨w.heap.size, 0, none⟩ = some (.pointer a) ∧ X.cell? ⟨w.heap.size, 1, none⟩ = some (.int .i64 root)) ∧ (X.cell? ⟨w1.heap.size, 0, none⟩ = some (.int .i64 ia) ∧ X.cell? ⟨w1.heap.size, 1, none⟩ = some (.int .i64 ib) ∧ X.cell? ⟨w1.heap.size, 2, none⟩ = some (.int .i64 k) ∧ X.cell? ⟨w1.heap.size, 3, none⟩ = some (.int .i64 x) ∧ X.cell? ⟨w1.heap.size, 4, none⟩ = some (.int .i64 cs) ∧ X.cell? ⟨w1.heap.size, 5, none⟩ = some (.int .i64 ch)))) (by kernel_rfl) (⟨(cellsM (J2.out.at_ (List.mem_cons_of_mem _ (List.mem_cons_self ..)))).2, (cellsC (J2.out.at_ (List.mem_cons_self ..))).2⟩) (fun hHeld0 => ?_)
    refine wpAnyH_take (i := 0) (v := ?_) rfl (by kernel_rfl) (by kernel_rfl) (by kernel_rfl) (fun _ _ _ h => h) (Or.inl ⟨by rfl, ?ypp1⟩) (by assumption) ?qpp1
    case ypp1 => (intro wz hSw; (try dsimp only at hSw); go_simp <;> with_reducible rfl)
    try simp only [Act.put, List.getElem_toArray, List.getElem_cons_zero, List.setIfInBounds_toArray, List.set_cons_zero, List.set_cons_succ]
    refine wpAnyH_take (i := 1) (v := ?_) rfl (by kernel_rfl) (by kernel_rfl) (by kernel_rfl) (fun _ _ _ h => h) (Or.inl ⟨by rfl, ?ypp2⟩) (by assumption) ?qpp2
    case ypp2 => (intro wz hSw; (try dsimp only at hSw); go_simp <;> with_reducible rfl)
    try simp only [Act.put, List.getElem_toArray, List.getElem_cons_zero, List.getElem_cons_succ, List.setIfInBounds_toArray, List.set_cons_zero, List.set_cons_succ]
    refine wpAnyH_take (i := 2) (v := ?_) rfl (by kernel_rfl) (by kernel_rfl) (by kernel_rfl) (fun _ _ _ h => h) (Or.inl ⟨by rfl, ?ypp3⟩) (by assumption) ?qpp3
    case ypp3 => (intro wz hSw; (try dsimp only at hSw); go_simp <;> with_reducible rfl)
    try simp only [Act.put, List.getElem_toArray, List.getElem_cons_zero, List.getElem_cons_succ, List.setIfInBounds_toArray, List.set_cons_zero, List.set_cons_succ]
    refine wpAnyH_take (i := 3) (v := ?_) rfl (by kernel_rfl) (by kernel_rfl) (by kernel_rfl) (fun _ _ _ h => h) (Or.inl ⟨by rfl, ?ypp4⟩) (by assumption) ?qpp4
    case ypp4 => (intro wz hSw; (try dsimp only at hSw); go_simp <;> with_reducible rfl)
    try simp only [Act.put, List.getElem_toArray, List.getElem_cons_zero, List.getElem_cons_succ, List.setIfInBounds_toArray, List.set_cons_zero, List.set_cons_succ]
    refine wpAnyH_take (i := 5) (v := ?_) rfl (by kernel_rfl) (by kernel_rfl) (by kernel_rfl) (fun _ _ _ h => h) (Or.inl ⟨by rfl, ?ypp5⟩) (by assumption) ?qpp5
    case ypp5 => (intro wz hSw; (try dsimp only at hSw); go_simp <;> with_reducible rfl)
    try simp only [Act.put, List.getElem_toArray, List.getElem_cons_zero, List.getElem_cons_succ, List.setIfInBounds_toArray, List.set_cons_zero, List.set_cons_succ]
    refine wpAnyH_ready (rs := [4]) (by kernel_rfl) (by simp) ?_
    refine AllReadyH.cons rfl (fun K hK => ?_) AllReadyH.nil
    go_simp
    refine (HI.out _ _ J2.out.1 (by have := HLN.out.2; have := J2.out.2.2.2.1.size; omega) J2.out.2.1 J2.out.2.2.1).mono ?_
    intro e w3 hp
    obtain ⟨v3, rfl, J3⟩ := J2.out.call hp
    clear hp
    try go_wp2_with fail
    refine hK.out _ _ (⟨(cellsM (J3.out.at_ (List.mem_cons_of_mem _ (List.mem_cons_self ..)))).2, (cellsC (J3.out.at_ (List.mem_cons_self ..))).2⟩) (fun hHeld6 => ?_)
    clear hK K
    try simp only [Act.put, List.getElem_toArray, List.getElem_cons_zero, List.getElem_cons_succ, List.setIfInBounds_toArray, List.set_cons_zero, List.set_cons_succ]
    refine wpAnyH_ready (rs := [6]) (by kernel_rfl) (by simp) ?_
    refine AllReadyH.cons rfl (fun K hK => ?_) AllReadyH.nil
    go_simp
    refine (pmpair ⟨ia, ib, k, x, cs, ch⟩ _).mono ?_
    rintro e w4 ⟨rfl, hb⟩
    have J4 := Lib.hid (J3.out.below hb)
    clear hb
    try go_wp2_with fail
    refine hK.out _ _ (⟨(cellsM (J4.out.at_ (List.mem_cons_of_mem _ (List.mem_cons_self ..)))).2, (cellsC (J4.out.at_ (List.mem_cons_self ..))).2⟩) (fun hHeld7 => ?_)
    clear hK K
    try simp only [Act.put, List.getElem_toArray, List.getElem_cons_zero, List.getElem_cons_succ, List.setIfInBounds_toArray, List.set_cons_zero, List.set_cons_succ]
    refine wpAnyH_ready (rs := [7]) (by kernel_rfl) (by simp) ?_
    refine AllReadyH.cons rfl (fun K hK => ?_) AllReadyH.nil
    go_simp
    refine hK.out _ _ (⟨(cellsM ((J4.out.below ((Below.refl _ _).alloc (Nat.le_refl _) _)).at_ (List.mem_cons_of_mem _ (List.mem_cons_self ..)))).2, (cellsC ((J4.out.below ((Below.refl _ _).alloc (Nat.le_refl _) _)).at_ (List.mem_cons_self ..))).2⟩) (fun hHeld8 => ?_)
    clear hK K
    try simp only [Act.put, List.getElem_toArray, List.getElem_cons_zero, List.getElem_cons_succ, List.setIfInBounds_toArray, List.set_cons_zero, List.set_cons_succ]
    refine wpAnyH_ready (rs := [8]) (by kernel_rfl) (by simp) ?_
    refine AllReadyH.cons rfl (fun K hK => ?_) AllReadyH.nil
    refine step_append_pais rfl (.tmp 23) (.tmp 26) rfl (Nat.le_trans HLN.out.2 (by have := J4.out.2.2.2.1.size; simp; omega)) (J4.out.2.1.below ((Below.refl _ _).alloc (Nat.le_refl _) _)) rfl (pai_at ⟨k, x⟩ (heap_alloc_at _ _ _ (by simp))) rfl (by have := HLN.out; simp; omega) ?_
    intro v5 w5 ho hg hat
    have J6 := Lib.hid ((J4.out.below ((Below.refl _ _).alloc (Nat.le_refl _) _)).upd ho (Fr.of_grown (F := fun g => v3.ownBlock = some g) hg fun k hk => hk) (hat.imp id fun h => ⟨_, h, Nat.le_refl _⟩))
    clear ho hg hat
    refine hK.out _ _ (⟨(cellsM (J6.out.at_ (List.mem_cons_of_mem _ (List.mem_cons_self ..)))).2, (cellsC (J6.out.at_ (List.mem_cons_self ..))).2⟩) (fun hHeld9 => ?_)
    clear hK K
    try simp only [Act.put, List.getElem_toArray, List.getElem_cons_zero, List.getElem_cons_succ, List.setIfInBounds_toArray, List.set_cons_zero, List.set_cons_succ]
    refine wpAnyH_take (i := 9) (v := ?_) rfl (by kernel_rfl) (by kernel_rfl) (by kernel_rfl) (fun _ _ _ h => h) (Or.inl ⟨by rfl, ?ypp10⟩) (by assumption) ?qpp10
    case ypp10 => (intro wz hSw; (try dsimp only at hSw); go_simp <;> with_reducible rfl)
    try simp only [Act.put, List.getElem_toArray, List.getElem_cons_zero, List.getElem_cons_succ, List.setIfInBounds_toArray, List.set_cons_zero, List.set_cons_succ]
    refine wpAnyH_done (by kernel_rfl) ?_ _
    obtain ⟨_, m0, m1⟩ := cellsM (J6.out.at_ (List.mem_cons_of_mem _ (List.mem_cons_self ..)))
    obtain ⟨_, c0, c1, c2, c3, c4, c5⟩ := cellsC (J6.out.at_ (List.mem_cons_self ..))
    go_wp2_with fail
    refine (HJ.out _ _ J6.out.1 (by have := HLN.out.2; have := J6.out.2.2.2.1.size; omega) J6.out.2.1 J6.out.2.2.1).mono ?_
    intro e w7 hp
    obtain ⟨v7, rfl, J7⟩ := J6.out.call hp
    clear hp
    go_wp2_with fail
    go_ret
    exact J7.out.done
/-- What List leaves: a new list. -/
def ListIs (l : List Pai) (w : World) (e : Ending) (w' : World) : Prop := ∃ v, e = .returned v ∧ OwnPai w.heap.size w' v l ∧ Below w.heap.size w w'
set_option maxRecDepth 100000 in
theorem pmlist {pv : Value} {o : Option Nat} {room : Nat} {zs : List Cel} {w : World} {t : Tre} {root : Int} (h : ArV w pv o room zs) (ht : Tr zs t root) (hs : t.size < 65536) : Calls Try.prog 27 #[.agg #[pv, .int .i64 root]] w (ListIs t.list w) := by
  obtain ⟨a, rfl⟩ := h.ptr
  have HB : Hid (Below w.heap.size w (w.alloc (boxM (.pointer a) root))) := Lib.hid ((Below.refl _ _).alloc (Nat.le_refl _) _)
  have HP := Lib.hid (pmpairs (Bs := w.heap.size) root t _ (.slice none 0 0) [] root (h.below HB.out) HB.out.size ht (OwnPai.nil _ _) (fun g _ e => by cases e) (by simpa using hs))
  rw [List.nil_append] at HP
  clear h ht hs
  go_enter Try.func27, Try.ntmps27
  go_wp2_with fail
  refine HP.out.mono ?_
  rintro e w1 ⟨v, rfl, ho, hf, _⟩
  have HE : Hid (ListIs t.list w (.returned v) w1) := Lib.hid ⟨v, rfl, ho, ((Fr.of_below HB.out).trans hf (fun g _ e => e)).below (fun g hg => by cases hg) (Nat.le_refl _)⟩
  clear ho hf
  go_wp2_with fail
  go_ret
  exact HE.out
end Go.Proofs.Ytpbkclciipmonaa.F
