/-
  Contracts of small functions, several texts laid into one. Not a statement of the seat.
-/
import Derived.Test.YtpbkclciipmonaaPmMap
import Derived.Test.YtpbkclciipmonaaHead3
import Derived.Test.YtpbkclciipmonaaHead1
import Derived.Test.YtpbkclciipmonaaPmRef3
import Derived.Deep.Cut
import Derived.Deep.CutRange
import Derived.Deep.DeepCutAuto
import Derived.Deep.RegionHeld3
namespace Go.Proofs.Ytpbkclciipmonaa.F
open Go.ChangeShapes Go.WideShapes Go.ChangeAt Go.RowKit Base
/-- What pairs leaves: a longer list; all but the list that came in is as it was. -/
def PGP (Bs : Nat) (v0 : Value) (l : List Pai) (w : World) (e : Ending) (w' : World) : Prop := ∃ v', e = .returned v' ∧ OwnPai Bs w' v' l ∧ Fr (fun g => v0.ownBlock = some g) w w' ∧ Mv v0.ownBlock v'.ownBlock w
/-- What stays on the way. -/
def PQ (Bs : Nat) (pv : Value) (o : Option Nat) (room : Nat) (zs : List Cel) (w0 : World) (v0 : Value) (w : World) (v : Value) (l : List Pai) (bs : List (Nat × Obj)) : Prop :=
  ArV w pv o room zs ∧ OwnPai Bs w v l ∧ (∀ g, VF pv o g → v.ownBlock ≠ some g) ∧ Fr (fun g => v0.ownBlock = some g) w0 w ∧ Mv v0.ownBlock v.ownBlock w0 ∧ ∀ p ∈ bs, w.heap[p.1]? = some p.2 ∧ v.ownBlock ≠ some p.1
section
variable {Bs : Nat} {pv : Value} {o : Option Nat} {room : Nat} {zs : List Cel} {w0 w w' : World} {v0 v v' : Value} {l l' : List Pai} {bs : List (Nat × Obj)}
theorem PQ.start (h : ArV w pv o room zs) (ho : OwnPai Bs w v l) (hv : ∀ g, VF pv o g → v.ownBlock ≠ some g) : PQ Bs pv o room zs w v w v l [] := ⟨h, ho, hv, Fr.refl _ _, Mv.refl _ _, fun _ hp => (List.not_mem_nil hp).elim⟩
theorem PQ.below (h : PQ Bs pv o room zs w0 v0 w v l bs) (hb : Below w.heap.size w w') : PQ Bs pv o room zs w0 v0 w' v l bs :=
  ⟨h.1.below hb, h.2.1.below hb, h.2.2.1, h.2.2.2.1.trans (Fr.of_below (F := fun _ => False) hb) (fun _ _ e => e.elim), h.2.2.2.2.1, fun p hp => ⟨(hb.block _ (heap_lt (h.2.2.2.2.2 p hp).1)).trans (h.2.2.2.2.2 p hp).1, (h.2.2.2.2.2 p hp).2⟩⟩
theorem PQ.alloc (h : PQ Bs pv o room zs w0 v0 w v l bs) (ob : Obj) : PQ Bs pv o room zs w0 v0 (w.alloc ob) v l ((w.heap.size, ob) :: bs) := by
  have h2 := h.below ((Below.refl _ _).alloc (Nat.le_refl _) ob)
  refine ⟨h2.1, h2.2.1, h2.2.2.1, h2.2.2.2.1, h2.2.2.2.2.1, fun p hp => ?_⟩
  rcases List.mem_cons.1 hp with rfl | hp
  · exact ⟨heap_alloc_at _ _ _ rfl, fun k => Nat.lt_irrefl _ (h.2.1.base _ k).2⟩
  · exact h2.2.2.2.2.2 p hp
theorem PQ.upd (h : PQ Bs pv o room zs w0 v0 w v l bs) (ho : OwnPai Bs w' v' l') (hf : Fr (fun g => v.ownBlock = some g) w w') (hm : Mv v.ownBlock v'.ownBlock w) : PQ Bs pv o room zs w0 v0 w' v' l' bs := by
  obtain ⟨h1, h2, h3, h4, h5, h6⟩ := h
  refine ⟨h1.fr hf (fun g hv e => h3 g hv e), ho, fun g hv e => ?_, h4.trans hf (fun g hg e => ?_), h5.trans hm h4.size, fun p hp => ?_⟩
  · rcases hm with k | ⟨g', k, hg'⟩
    · exact h3 g hv (k.symm.trans e)
    · rw [k] at e; injection e with e; have := h1.lt g hv; omega
  · rcases h5 with k | ⟨g', k, hg'⟩
    · rw [← k]; exact e
    · rw [k] at e; injection e with e; omega
  · have := h6 p hp
    refine ⟨(hf.block (heap_lt this.1) this.2).trans this.1, fun e => ?_⟩
    rcases hm with k | ⟨g', k, hg'⟩
    · exact this.2 (k.symm.trans e)
    · rw [k] at e; injection e with e; have := heap_lt this.1; omega
theorem PQ.call {e : Ending} (h : PQ Bs pv o room zs w0 v0 w v l bs) (hp : PGP Bs v l' w e w') : ∃ v', e = .returned v' ∧ Hid (PQ Bs pv o room zs w0 v0 w' v' l' bs) := by
  obtain ⟨v', he, ho, hf, hm⟩ := hp
  exact ⟨v', he, Lib.hid (h.upd ho hf hm)⟩
theorem PQ.at_ (h : PQ Bs pv o room zs w0 v0 w v l bs) {g : Nat} {ob : Obj} (hp : (g, ob) ∈ bs) : w.heap[g]? = some ob := (h.2.2.2.2.2 (g, ob) hp).1
theorem PQ.done (h : PQ Bs pv o room zs w0 v0 w v l bs) : PGP Bs v0 l w0 (.returned v) w := ⟨v, rfl, h.2.1, h.2.2.2.1, h.2.2.2.2.1⟩
end
set_option maxHeartbeats 8000000 in
set_option maxRecDepth 100000 in
theorem pmpairs {Bs : Nat} {pv : Value} {o : Option Nat} {room : Nat} {zs : List Cel} (root : Int) : ∀ (t : Tre) (w : World) (v : Value) (l : List Pai) (i : Int), ArV w pv o room zs → Bs ≤ w.heap.size → Tr zs t i → OwnPai Bs w v l → (∀ g, VF pv o g → v.ownBlock ≠ some g) → l.length + t.size < 65536 →
    Calls Try.prog 63 #[.agg #[pv, .int .i64 root], v, .int .i64 i] w (PGP Bs v (l ++ t.list) w) := by
  intro t
  induction t with
  | nil =>
    intro w v l i h hB ht ho hv hl
    simp only [Tr] at ht
    subst ht
    obtain ⟨a, rfl⟩ := h.ptr
    have J0 := Lib.hid ((PQ.start h ho hv).alloc (boxM (.pointer a) root))
    obtain ⟨p, c, hvv⟩ : ∃ p c, v = .slice p l.length c := by
      rcases ho.2 with ⟨hv, h0⟩ | ⟨g, cap, cur, hv, _⟩
      · exact ⟨none, 0, by rw [hv, h0]⟩
      · exact ⟨_, _, hv⟩
    have HE : Hid (l ++ Tre.nil.list = l) := Lib.hid (List.append_nil _)
    rw [HE.out]
    clear h ho hv
    subst hvv
    go_enter Try.func63, Try.ntmps63
    go_wp2_with fail
    go_ret
    exact J0.out.done
  | node l' k x r ihl ihr =>
    intro w v l i h hB ht ho hv hl
    obtain ⟨a, rfl⟩ := h.ptr
    obtain ⟨hi, ia, ib, hcel, htl, htr⟩ := ht
    simp only [Tre.size] at hl
    have J0 := Lib.hid ((PQ.start h ho hv).alloc (boxM (.pointer a) root))
    have HC := Lib.hid (pmcell root i J0.out.1)
    rw [hcel] at HC
    generalize ((Tre.node l' k x r).size : Int) = cs at HC
    generalize ((Tre.node l' k x r).high : Int) = ch at HC
    have HE : Hid (l ++ (Tre.node l' k x r).list = (l ++ l'.list ++ [⟨k, x⟩]) ++ r.list) := Lib.hid (by simp [Tre.list])
    rw [HE.out]
    have hs1 := Tre.list_len l'
    obtain ⟨p, c, hvv⟩ : ∃ p c, v = .slice p l.length c := by
      rcases ho.2 with ⟨hv, h0⟩ | ⟨g, cap, cur, hv, _⟩
      · exact ⟨none, 0, by rw [hv, h0]⟩
      · exact ⟨_, _, hv⟩
    have HI : Hid (∀ (X : World) (u : Value), ArV X (.pointer a) o room zs → Bs ≤ X.heap.size → OwnPai Bs X u l → (∀ g, VF (.pointer a) o g → u.ownBlock ≠ some g) → Calls Try.prog 63 #[.agg #[.pointer a, .int .i64 root], u, .int .i64 ia] X (PGP Bs u (l ++ l'.list) X)) := Lib.hid fun X u h1 h2 h3 h4 => ihl X u l ia h1 h2 htl h3 h4 (by omega)
    have HJ : Hid (∀ (X : World) (u : Value), ArV X (.pointer a) o room zs → Bs ≤ X.heap.size → OwnPai Bs X u (l ++ l'.list ++ [⟨k, x⟩]) → (∀ g, VF (.pointer a) o g → u.ownBlock ≠ some g) → Calls Try.prog 63 #[.agg #[.pointer a, .int .i64 root], u, .int .i64 ib] X (PGP Bs u (l ++ l'.list ++ [⟨k, x⟩] ++ r.list) X)) := Lib.hid fun X u h1 h2 h3 h4 => ihr X u _ ib h1 h2 htr h3 h4 (by simp; omega)
    have hnz : (i == 0) = false := by rw [beq_eq_false_iff_ne]; omega
    have hnl : decide (65536 ≤ (l.length : Int)) = false := by rw [decide_eq_false_iff_not]; omega
    have HLN : Hid (l.length + l'.list.length ≤ 65536 ∧ Bs ≤ w.heap.size) := Lib.hid ⟨by omega, hB⟩
    clear h ho hv hcel htl htr ihl ihr hl hB hs1
    subst hvv
    go_enter Try.func63, Try.ntmps63
    go_wp2_with fail
    refine HC.out.mono ?_
    rintro e w1 ⟨rfl, hb⟩
    have J1 := Lib.hid ((J0.out.below hb).alloc (boxC ⟨ia, ib, k, x, cs, ch⟩))
    have hw1 : w.heap.size < w1.heap.size := by have := hb.size; simp at this; omega
    clear hb HC J0
    go_upto_region 4 with fail
    have J2 := Lib.hid (J1.out.below (Below.refl _ _).drew)
    refine wp_region_held_drew (S := (fun X => (X.cell? ⟨w.heap.size, 0, none⟩ = some (.pointer a) ∧ X.cell? ⟨w.heap.size, 1, none⟩ = some (.int .i64 root)) ∧ (X.cell? ⟨w1.heap.size, 0, none⟩ = some (.int .i64 ia) ∧ X.cell? ⟨w1.heap.size, 1, none⟩ = some (.int .i64 ib) ∧ X.cell? ⟨w1.heap.size, 2, none⟩ = some (.int .i64 k) ∧ X.cell? ⟨w1.heap.size, 3, none⟩ = some (.int .i64 x) ∧ X.cell? ⟨w1.heap.size, 4, none⟩ = some (.int .i64 cs) ∧ X.cell? ⟨w1.heap.size, 5, none⟩ = some (.int .i64 ch)))) (by kernel_rfl) (⟨(cellsM (J2.out.at_ (List.mem_cons_of_mem _ (List.mem_cons_self ..)))).2, (cellsC (J2.out.at_ (List.mem_cons_self ..))).2⟩) (fun hHeld0 => ?_)
    refine wpAnyH_take (i := 0) (v := ?_) rfl (by kernel_rfl) (by kernel_rfl) (by kernel_rfl) (fun _ _ _ h => h) (Or.inl ⟨by rfl, ?ypp1⟩) (by assumption) ?qpp1
    case ypp1 => (intro wz hSw; (try dsimp only at hSw); go_simp <;> with_reducible rfl)
    try simp only [Act.put, List.getElem_toArray, List.getElem_cons_zero, List.setIfInBounds_toArray, List.set_cons_zero, List.set_cons_succ]
    refine wpAnyH_take (i := 1) (v := ?_) rfl (by kernel_rfl) (by kernel_rfl) (by kernel_rfl) (fun _ _ _ h => h) (Or.inl ⟨by rfl, ?ypp2⟩) (by assumption) ?qpp2
    case ypp2 => (intro wz hSw; (try dsimp only at hSw); go_simp <;> with_reducible rfl)
    try simp only [Act.put, List.getElem_toArray, List.getElem_cons_zero, List.getElem_cons_succ, List.setIfInBounds_toArray, List.set_cons_zero, List.set_cons_succ]
    refine wpAnyH_take (i := 2) (v := ?_) rfl (by kernel_rfl) (by kernel_rfl) (by kernel_rfl) (fun _ _ _ h => h) (Or.inl ⟨by rfl, ?ypp3⟩) (by assumption) ?qpp3
    case ypp3 => (intro wz hSw; (try dsimp only at hSw); go_simp <;> with_reducible rfl)
    try simp only [Act.put, List.getElem_toArray, List.getElem_cons_zero, List.getElem_cons_succ, List.setIfInBounds_toArray, List.set_cons_zero, List.set_cons_succ]
    refine wpAnyH_take (i := 3) (v := ?_) rfl (by kernel_rfl) (by kernel_rfl) (by kernel_rfl) (fun _ _ _ h => h) (Or.inl ⟨by rfl, ?ypp4⟩) (by assumption) ?qpp4
    case ypp4 => (intro wz hSw; (try dsimp only at hSw); go_simp <;> with_reducible rfl)
    try simp only [Act.put, List.getElem_toArray, List.getElem_cons_zero, List.getElem_cons_succ, List.setIfInBounds_toArray, List.set_cons_zero, List.set_cons_succ]
    refine wpAnyH_take (i := 5) (v := ?_) rfl (by kernel_rfl) (by kernel_rfl) (by kernel_rfl) (fun _ _ _ h => h) (Or.inl ⟨by rfl, ?ypp5⟩) (by assumption) ?qpp5
    case ypp5 => (intro wz hSw; (try dsimp only at hSw); go_simp <;> with_reducible rfl)
    try simp only [Act.put, List.getElem_toArray, List.getElem_cons_zero, List.getElem_cons_succ, List.setIfInBounds_toArray, List.set_cons_zero, List.set_cons_succ]
    refine wpAnyH_ready (rs := [4]) (by kernel_rfl) (by simp) ?_
    refine AllReadyH.cons rfl (fun K hK => ?_) AllReadyH.nil
    go_simp
    refine (HI.out _ _ J2.out.1 (by have := HLN.out.2; have := J2.out.2.2.2.1.size; omega) J2.out.2.1 J2.out.2.2.1).mono ?_
    intro e w3 hp
    obtain ⟨v3, rfl, J3⟩ := J2.out.call hp
    clear hp
    try go_wp2_with fail
    refine hK.out _ _ (⟨(cellsM (J3.out.at_ (List.mem_cons_of_mem _ (List.mem_cons_self ..)))).2, (cellsC (J3.out.at_ (List.mem_cons_self ..))).2⟩) (fun hHeld6 => ?_)
    clear hK K
    try simp only [Act.put, List.getElem_toArray, List.getElem_cons_zero, List.getElem_cons_succ, List.setIfInBounds_toArray, List.set_cons_zero, List.set_cons_succ]
    refine wpAnyH_ready (rs := [6]) (by kernel_rfl) (by simp) ?_
    refine AllReadyH.cons rfl (fun K hK => ?_) AllReadyH.nil
    go_simp
    refine (pmpair ⟨ia, ib, k, x, cs, ch⟩ _).mono ?_
    rintro e w4 ⟨rfl, hb⟩
    have J4 := Lib.hid (J3.out.below hb)
    clear hb
    try go_wp2_with fail
    refine hK.out _ _ (⟨(cellsM (J4.out.at_ (List.mem_cons_of_mem _ (List.mem_cons_self ..)))).2, (cellsC (J4.out.at_ (List.mem_cons_self ..))).2⟩) (fun hHeld7 => ?_)
    clear hK K
    try simp only [Act.put, List.getElem_toArray, List.getElem_cons_zero, List.getElem_cons_succ, List.setIfInBounds_toArray, List.set_cons_zero, List.set_cons_succ]
    refine wpAnyH_ready (rs := [7]) (by kernel_rfl) (by simp) ?_
    refine AllReadyH.cons rfl (fun K hK => ?_) AllReadyH.nil
    go_simp
    refine hK.out _ _ (⟨(cellsM ((J4.out.below ((Below.refl _ _).alloc (Nat.le_refl _) _)).at_ (List.mem_cons_of_mem _ (List.mem_cons_self ..)))).2, (cellsC ((J4.out.below ((Below.refl _ _).alloc (Nat.le_refl _) _)).at_ (List.mem_cons_self ..))).2⟩) (fun hHeld8 => ?_)
    clear hK K
    try simp only [Act.put, List.getElem_toArray, List.getElem_cons_zero, List.getElem_cons_succ, List.setIfInBounds_toArray, List.set_cons_zero, List.set_cons_succ]
    refine wpAnyH_ready (rs := [8]) (by kernel_rfl) (by simp) ?_
    refine AllReadyH.cons rfl (fun K hK => ?_) AllReadyH.nil
    refine step_append_pais rfl (.tmp 23) (.tmp 26) rfl (Nat.le_trans HLN.out.2 (by have := J4.out.2.2.2.1.size; simp; omega)) (J4.out.2.1.below ((Below.refl _ _).alloc (Nat.le_refl _) _)) rfl (pai_at ⟨k, x⟩ (heap_alloc_at _ _ _ (by simp))) rfl (by have := HLN.out; simp; omega) ?_
    intro v5 w5 ho hg hat
    have J6 := Lib.hid ((J4.out.below ((Below.refl _ _).alloc (Nat.le_refl _) _)).upd ho (Fr.of_grown (F := fun g => v3.ownBlock = some g) hg fun k hk => hk) (hat.imp id fun h => ⟨_, h, Nat.le_refl _⟩))
    clear ho hg hat
    refine hK.out _ _ (⟨(cellsM (J6.out.at_ (List.mem_cons_of_mem _ (List.mem_cons_self ..)))).2, (cellsC (J6.out.at_ (List.mem_cons_self ..))).2⟩) (fun hHeld9 => ?_)
    clear hK K
    try simp only [Act.put, List.getElem_toArray, List.getElem_cons_zero, List.getElem_cons_succ, List.setIfInBounds_toArray, List.set_cons_zero, List.set_cons_succ]
    refine wpAnyH_take (i := 9) (v := ?_) rfl (by kernel_rfl) (by kernel_rfl) (by kernel_rfl) (fun _ _ _ h => h) (Or.inl ⟨by rfl, ?ypp10⟩) (by assumption) ?qpp10
    case ypp10 => (intro wz hSw; (try dsimp only at hSw); go_simp <;> with_reducible rfl)
    try simp only [Act.put, List.getElem_toArray, List.getElem_cons_zero, List.getElem_cons_succ, List.setIfInBounds_toArray, List.set_cons_zero, List.set_cons_succ]
    refine wpAnyH_done (by kernel_rfl) ?_ _
    obtain ⟨_, m0, m1⟩ := cellsM (J6.out.at_ (List.mem_cons_of_mem _ (List.mem_cons_self ..)))
    obtain ⟨_, c0, c1, c2, c3, c4, c5⟩ := cellsC (J6.out.at_ (List.mem_cons_self ..))
    go_wp2_with fail
    refine (HJ.out _ _ J6.out.1 (by have := HLN.out.2; have := J6.out.2.2.2.1.size; omega) J6.out.2.1 J6.out.2.2.1).mono ?_
    intro e w7 hp
    obtain ⟨v7, rfl, J7⟩ := J6.out.call hp
    clear hp
    go_wp2_with fail
    go_ret
    exact J7.out.done
/-- What List leaves: a new list. -/
def ListIs (l : List Pai) (w : World) (e : Ending) (w' : World) : Prop := ∃ v, e = .returned v ∧ OwnPai w.heap.size w' v l ∧ Below w.heap.size w w'
set_option maxRecDepth 100000 in
theorem pmlist {pv : Value} {o : Option Nat} {room : Nat} {zs : List Cel} {w : World} {t : Tre} {root : Int} (h : ArV w pv o room zs) (ht : Tr zs t root) (hs : t.size < 65536) : Calls Try.prog 27 #[.agg #[pv, .int .i64 root]] w (ListIs t.list w) := by
  obtain ⟨a, rfl⟩ := h.ptr
  have HB : Hid (Below w.heap.size w (w.alloc (boxM (.pointer a) root))) := Lib.hid ((Below.refl _ _).alloc (Nat.le_refl _) _)
  have HP := Lib.hid (pmpairs (Bs := w.heap.size) root t _ (.slice none 0 0) [] root (h.below HB.out) HB.out.size ht (OwnPai.nil _ _) (fun g _ e => by cases e) (by simpa using hs))
  rw [List.nil_append] at HP
  clear h ht hs
  go_enter Try.func27, Try.ntmps27
  go_wp2_with fail
  refine HP.out.mono ?_
  rintro e w1 ⟨v, rfl, ho, hf, _⟩
  have HE : Hid (ListIs t.list w (.returned v) w1) := Lib.hid ⟨v, rfl, ho, ((Fr.of_below HB.out).trans hf (fun g _ e => e)).below (fun g hg => by cases hg) (Nat.le_refl _)⟩
  clear ho hf
  go_wp2_with fail
  go_ret
  exact HE.out
end Go.Proofs.Ytpbkclciipmonaa.F
namespace Go.Proofs.Ytpbkclciipmonaa.F
open Go.ChangeShapes Go.WideShapes Go.ChangeAt Go.RowKit Base
namespace Tre
def look (key : Int) : Tre → Int × Bool
  | nil => (0, false)
  | node l k v r => if key < k then l.look key else if k < key then r.look key else (v, true)
def nth (i : Int) : Tre → Pai × Bool
  | nil => (Pai.zero, false)
  | node l k v r => if i < (l.size : Int) then l.nth i else if (l.size : Int) < i then r.nth (i - ((l.size : Int) + 1)) else (⟨k, v⟩, true)
def rank (key : Int) : Tre → Nat
  | nil => 0
  | node l k _ r => if key ≤ k then l.rank key else l.size + 1 + r.rank key
theorem rank_le (key : Int) (t : Tre) : t.rank key ≤ t.size := by
  induction t with
  | nil => simp [rank]
  | node l k v r h1 h2 => simp only [rank, size]; split <;> omega
end Tre
end Go.Proofs.Ytpbkclciipmonaa.F
namespace Go.Proofs.Ytpbkclciipmonaa.F
open Go.ChangeShapes Go.WideShapes Go.ChangeAt Go.RowKit Base
/-- What done leaves behind a builder's way. -/
def Fin (B : Nat) (pv : Value) (o : Option Nat) (room : Nat) (zs : List Cel) (P : List Cel → Int → Prop) (Z : Prop) (w wb : World) (e : Ending) (w' : World) : Prop :=
  ∃ root' why zs' o', e = .returned (.tuple #[.agg #[pv, .int .i64 root'], .int .i64 why]) ∧ Hid (ArV w' pv o' room zs' ∧ Mv o o' w ∧ Fr (VF pv o) w w' ∧ MRes P Z zs zs' root' why ∧ ∀ g, g < wb.heap.size → w.heap.size ≤ g → g ≠ B → w'.heap[g]? = wb.heap[g]? ∧ ¬ VF pv o' g)
theorem pmfin {B : Nat} {pv : Value} {o : Option Nat} {root : Int} {room : Nat} {zs : List Cel} {R : List Cel × Int × Int} {P : List Cel → Int → Prop} {Z : Prop} {w wb w2 : World} {v : Value} {e : Ending} (hA : ArV w pv o room zs) (hb : Below w.heap.size w wb) (hB : w.heap.size ≤ B)
    (hp : BP B pv o root (zs.length : Int) room R.1 R.2.1 v wb e w2) (hR : (∃ new, R.1 = zs ++ new) ∧ ((R.2.1 = 0 ∧ P R.1 R.2.2) ∨ (R.2.1 = 2 ∧ Z))) : Calls Try.prog 60 #[.pointer (some ⟨B, 0, none⟩), .int .i64 R.2.2] w2 (Fin B pv o room zs P Z w wb) := by
  obtain ⟨_, o2, hBI, hM, hF⟩ := hp
  have hM' : Mv o o2 w := hM.lower hb.size
  have hF' : Fr (VF pv o) w w2 := (Fr.of_below hb).trans hF (fun g hg k => by
    rcases k with rfl | k
    · omega
    · exact k)
  have hold : ∀ g, g < wb.heap.size → w.heap.size ≤ g → g ≠ B → w2.heap[g]? = wb.heap[g]? ∧ ¬ VF pv o2 g := fun g h1 h2 h3 => by
    have hn : ¬ VF pv o g := fun k => by have := hA.lt g k; omega
    exact ⟨hF.block h1 (fun k => k.elim h3 hn), fun k => hn (hM.vf g h1 k)⟩
  obtain ⟨⟨new, hnew⟩, hR⟩ := hR
  rcases hR with ⟨h0, hP⟩ | ⟨h2, hZ⟩
  · rw [h0] at hBI
    refine (pmdone_yes R.2.2 hBI).mono fun e' w3 ⟨he, hb3⟩ => ?_
    exact ⟨_, _, R.1, o2, he, Lib.hid ⟨hBI.2.below hb3, hM', hF'.trans (Fr.of_below (F := fun _ => False) hb3) (fun _ _ k => k.elim), .inl ⟨rfl, hP⟩, fun g h1 h2 h3 => ⟨(hb3.block g (Nat.lt_of_lt_of_le h1 hF.size)).trans (hold g h1 h2 h3).1, (hold g h1 h2 h3).2⟩⟩⟩
  · rw [h2] at hBI
    refine (pmdone_no (n := zs.length) R.2.2 hBI (by rw [hnew]; simp)).mono fun e' w3 ⟨he, o3, h3, h4, h5⟩ => ?_
    rw [show R.1.take zs.length = zs by rw [hnew]; simp] at h3
    exact ⟨_, _, zs, o3, he, Lib.hid ⟨h3, hM'.trans h4 hF'.size, hF'.trans h5 (fun g hg k => hM'.vf g hg k), .inr ⟨rfl, rfl, rfl, hZ⟩, fun g h1 h2 h6 => ⟨(h5.block (Nat.lt_of_lt_of_le h1 hF.size) (hold g h1 h2 h6).2).trans (hold g h1 h2 h6).1, fun k => (hold g h1 h2 h6).2 (h4.vf g (Nat.lt_of_lt_of_le h1 hF.size) k)⟩⟩⟩
/-- The result's box, stored into at the end. -/
theorem fin_end {B gr : Nat} {a : Option Addr} {o : Option Nat} {room : Nat} {zs : List Cel} {P : List Cel → Int → Prop} {Z : Prop} {w wb w3 w4 : World} {root' why : Int} {zs' : List Cel} {o' : Option Nat}
    (h : ArV w3 (.pointer a) o' room zs' ∧ Mv o o' w ∧ Fr (VF (.pointer a) o) w w3 ∧ MRes P Z zs zs' root' why ∧ ∀ g, g < wb.heap.size → w.heap.size ≤ g → g ≠ B → w3.heap[g]? = wb.heap[g]? ∧ ¬ VF (.pointer a) o' g) (hgr : w.heap.size ≤ gr) (h1 : gr < wb.heap.size) (h2 : gr ≠ B) (hs : Stored w3 gr (boxM (.pointer a) root') w4) :
    MP (.pointer a) o room zs P Z w (.returned (.tuple #[.agg #[.pointer a, .int .i64 root'], .int .i64 why])) w4 := by
  obtain ⟨k1, k2, k3, k4, k5⟩ := h
  have hf : Fr (fun g => g = gr) w3 w4 := ⟨hs.1, hs.2.1, hs.2.2.1, by rw [hs.2.2.2.1]; exact Nat.le_refl _, fun g _ hn => hs.2.2.2.2.2 g hn⟩
  exact ⟨root', why, zs', o', rfl, k1.fr hf (fun g hv e => (k5 gr h1 hgr h2).2 (e ▸ hv)), k2, k3.trans hf (fun g hg e => by omega), k4⟩
set_option maxHeartbeats 8000000 in
set_option maxRecDepth 100000 in
theorem pmput {pv : Value} {o : Option Nat} {room : Nat} {zs : List Cel} {w : World} {t : Tre} {root : Int} (p : Pai) (hp : p.ok) (h : ArV w pv o room zs) (ht : Tr zs t root) (hsz : t.size ≤ 500000) :
    Calls Try.prog 21 #[.agg #[pv, .int .i64 root], .int .i64 p.k, .int .i64 p.v] w (MP pv o room zs (PutP zs (3 * t.high + 1) (Tre.ins p.k p.v t)) (room < zs.length + (3 * t.high + 1)) w) := by
  obtain ⟨a, rfl⟩ := h.ptr
  have hb0 : Below w.heap.size w ((w.alloc (boxM (.pointer a) root)).alloc (boxM (.pointer none) 0)) := ((Below.refl _ _).alloc (Nat.le_refl _) _).alloc (by simp) _
  have HA := Lib.hid h
  have HB0 := Lib.hid hb0
  have HM := Lib.hid (pmbuild root (h.below hb0))
  have HW := Lib.hid fun (B : Nat) (X : World) (hX : BI X B (.pointer a) o root (zs.length : Int) room zs 0) => bwith p hp t X o zs root hX ht hsz
  generalize Tre.ins p.k p.v t = T at HW ⊢
  generalize 3 * t.high + 1 = n at HW ⊢
  clear h ht hsz hb0 hp
  go_enter Try.func21, Try.ntmps21
  go_wp2_with fail
  refine HM.out.mono ?_
  rintro e w1 ⟨B, rfl, hB, hBI, hb⟩
  have hm : w1.heap[w.heap.size]? = some (boxM (.pointer a) root) := (hb.block _ (by simp; omega)).trans (heap_alloc_lt _ _ _ _ (heap_alloc_at _ _ _ rfl))
  have hr : w1.heap[w.heap.size + 1]? = some (boxM (.pointer none) 0) := (hb.block _ (by simp)).trans (heap_alloc_at _ _ _ (by simp))
  have HX : Hid (BI w1 B (.pointer a) o root (zs.length : Int) room zs 0 ∧ w.heap.size + 2 ≤ B ∧ Below w.heap.size w w1 ∧ w1.heap[w.heap.size + 1]? = some (boxM (.pointer none) 0)) := Lib.hid ⟨hBI, by simp at hB; omega, HB0.out.trans (hb.mono HB0.out.size), hr⟩
  obtain ⟨hgm, m0, m1⟩ := cellsM hm
  clear hB hBI hb hm hr HM
  go_wp2_with fail
  refine (HW.out _ _ HX.out.1).mono ?_
  rintro e w2 ⟨R, hO, hlen, hs⟩
  obtain ⟨rfl, _⟩ := id hs
  have HFin := Lib.hid (pmfin HA.out HX.out.2.2.1 (by have := HX.out.2.1; omega) hs hO.fin)
  clear hs hO hlen m0 m1 hgm HW
  go_wp2_with fail
  refine HFin.out.mono ?_
  rintro e w3 ⟨root', why, zs', o', rfl, HE⟩
  have HS : Hid (w3.heap[w.heap.size + 1]? = some (boxM (.pointer none) 0)) := Lib.hid ((HE.out.2.2.2.2 _ (heap_lt HX.out.2.2.2) (by omega) (by have := HX.out.2.1; omega)).1.trans HX.out.2.2.2)
  clear HFin
  go_wp2_with (refine wpList_store_map rfl (.tmp 6) (.tmp 20) rfl (w.heap.size + 1) a none root' 0 rfl rfl HS.out ?_; intro w4 hst; have HST := Lib.hid hst; obtain ⟨_, r0, r1⟩ := cellsM hst.2.2.2.2.1; clear hst)
  exact bodyPost_ret (v := .tuple #[.agg #[.pointer a, .int .i64 root'], .int .i64 why]) (by simp [results, Try.results21, go_sem, r0, r1]) rfl (fin_end HE.out (by omega) (heap_lt HX.out.2.2.2) (by have := HX.out.2.1; omega) HST.out)
end Go.Proofs.Ytpbkclciipmonaa.F
namespace Go.Proofs.Ytpbkclciipmonaa.F
open Go.ChangeShapes Go.WideShapes Go.ChangeAt Go.RowKit Base
theorem look_has (key : Int) (t : Tre) : (t.look key).2 = t.has key := by
  induction t with
  | nil => rfl
  | node l k v r h1 h2 =>
    simp only [Tre.look, Tre.has]
    split
    · exact h1
    · split
      · exact h2
      · rfl
set_option maxHeartbeats 8000000 in
set_option maxRecDepth 100000 in
theorem pmmove {pv pv2 : Value} {o o2 : Option Nat} {room room2 : Nat} {zs zs2 : List Cel} {w : World} {t : Tre} {root : Int} (h : ArV w pv o room zs) (ht : Tr zs t root) (hsz : t.size < 65536) (h2 : ArV w pv2 o2 room2 zs2) :
    Calls Try.prog 23 #[.agg #[pv, .int .i64 root], pv2] w (MP pv2 o2 room2 zs2 (MoveP zs2 t.size (mkT t.list)) (room2 < zs2.length + t.size) w) := by
  obtain ⟨a, rfl⟩ := h.ptr
  obtain ⟨a2, rfl⟩ := h2.ptr
  have hb0 : Below w.heap.size w ((w.alloc (boxM (.pointer a) root)).alloc (boxM (.pointer none) 0)) := ((Below.refl _ _).alloc (Nat.le_refl _) _).alloc (by simp) _
  have HA := Lib.hid h2
  have HB0 := Lib.hid hb0
  have HL := Lib.hid (pmlist (h.below hb0) ht hsz)
  have HN := Lib.hid (fun (X : World) (hX : Below w.heap.size w X) => pmnew (h2.below hX))
  have HM := Lib.hid (fun (X : World) (hX : Below w.heap.size w X) => pmbuild 0 (h2.below hX))
  have HOK := Lib.hid (ht.oks h.oks)
  have HLN := Lib.hid t.list_len
  have HSZ := Lib.hid hsz
  clear h ht hsz hb0 h2
  go_enter Try.func23, Try.ntmps23
  go_wp2_with fail
  refine HL.out.mono ?_
  rintro e w0 ⟨vl, rfl, hol, hb⟩
  have hr0 : w0.heap[w.heap.size + 1]? = some (boxM (.pointer none) 0) := (hb.block _ (by simp)).trans (heap_alloc_at _ _ _ (by simp))
  have HX0 : Hid (Below w.heap.size w w0 ∧ w0.heap[w.heap.size + 1]? = some (boxM (.pointer none) 0) ∧ OwnPai (w.heap.size + 2) w0 vl t.list) := Lib.hid ⟨HB0.out.trans (hb.mono HB0.out.size), hr0, by simpa using hol⟩
  clear hb hr0 hol HL
  go_wp2_with fail
  refine (HN.out _ HX0.out.1).mono ?_
  rintro e w01 ⟨rfl, hb⟩
  have HX1 : Hid (Below w.heap.size w w01 ∧ w01.heap[w.heap.size + 1]? = some (boxM (.pointer none) 0) ∧ OwnPai (w.heap.size + 2) w01 vl t.list) := Lib.hid ⟨HX0.out.1.trans (hb.mono HX0.out.1.size), (hb.block _ (heap_lt HX0.out.2.1)).trans HX0.out.2.1, HX0.out.2.2.below hb⟩
  clear hb HX0
  go_wp2_with fail
  refine (HM.out _ HX1.out.1).mono ?_
  rintro e w1 ⟨B, rfl, hB, hBI, hb⟩
  have hr : w1.heap[w.heap.size + 1]? = some (boxM (.pointer none) 0) := (hb.block _ (heap_lt HX1.out.2.1)).trans HX1.out.2.1
  have HX : Hid (BI w1 B (.pointer a2) o2 0 (zs2.length : Int) room2 zs2 0 ∧ w.heap.size + 2 ≤ B ∧ Below w.heap.size w w1 ∧ w1.heap[w.heap.size + 1]? = some (boxM (.pointer none) 0)) := Lib.hid ⟨hBI, by have := heap_lt HX1.out.2.1; omega, HX1.out.1.trans (hb.mono HX1.out.1.size), hr⟩
  have HPL : Hid (PL w1 vl t.list (BF B (.pointer a2) o2)) := Lib.hid (by
    have ho := HX1.out.2.2
    have ho1 := ho.below hb
    rcases ho1.2 with ⟨hv, h0⟩ | ⟨g, cap, cur, hv, _, hg, hcap, _⟩
    · exact .inl ⟨List.length_eq_zero_iff.1 h0, none, 0, hv⟩
    · have hg1 := ho.base g (by rw [hv]; rfl)
      refine .inr ⟨g, 0, cap, hv, hcap, heap_lt hg, fun k => ?_, ?_⟩
      · rcases k with k | k
        · omega
        · have := HA.out.lt g k; omega
      · have hl := ho1.list (by have := HLN.out; have := HSZ.out; omega)
        rcases hl with ⟨⟨p, c, hv2⟩, h0⟩ | ⟨g', o', c', hv2, _, _, _, hc⟩
        · exact fun k hk => absurd hk (by rw [h0]; simp)
        · rw [hv] at hv2
          injection hv2 with e1 e2 e3
          injection e1 with e1
          injection e1 with e1 e4
          subst e1 e4
          exact hc)
  clear hB hBI hb hr HM
  go_wp2_with fail
  refine (ball _ t.list vl _ _ _ _ rfl (by have := HLN.out; have := HSZ.out; omega) HOK.out HX.out.1 (.inl rfl) HPL.out).mono ?_
  rintro e w2 ⟨R, hO, hs⟩
  obtain ⟨rfl, _⟩ := id hs
  have HFin := Lib.hid (pmfin (P := MoveP zs2 t.size (mkT t.list)) (Z := room2 < zs2.length + t.size) HA.out HX.out.2.2.1 (by have := HX.out.2.1; omega) hs (by
    rcases hO with ⟨_, new, he, h⟩ | ⟨h0, _⟩
    · refine ⟨⟨new, he⟩, ?_⟩
      rw [HLN.out] at h
      rcases h with ⟨h1, h2, h3⟩ | ⟨h1, _, h3, _⟩
      · exact .inl ⟨h1, ⟨new, he, h3⟩, h2⟩
      · exact .inr ⟨h1, h3⟩
    · exact absurd h0 (by decide)))
  clear hs hO
  go_wp2_with fail
  refine HFin.out.mono ?_
  rintro e w3 ⟨root', why, zs', o', rfl, HE⟩
  have HS : Hid (w3.heap[w.heap.size + 1]? = some (boxM (.pointer none) 0)) := Lib.hid ((HE.out.2.2.2.2 _ (heap_lt HX.out.2.2.2) (by omega) (by have := HX.out.2.1; omega)).1.trans HX.out.2.2.2)
  clear HFin
  go_wp2_with (refine wpList_store_map rfl (.tmp 4) (.tmp 18) rfl (w.heap.size + 1) a2 none root' 0 rfl rfl HS.out ?_; intro w4 hst; have HST := Lib.hid hst; obtain ⟨_, r0, r1⟩ := cellsM hst.2.2.2.2.1; clear hst)
  exact bodyPost_ret (v := .tuple #[.agg #[.pointer a2, .int .i64 root'], .int .i64 why]) (by simp [results, Try.results23, go_sem, r0, r1]) rfl (fin_end HE.out (by omega) (heap_lt HX.out.2.2.2) (by have := HX.out.2.1; omega) HST.out)
end Go.Proofs.Ytpbkclciipmonaa.F
namespace Go.Proofs.Ytpbkclciipmonaa.F
open Go.ChangeShapes Go.WideShapes Go.ChangeAt Go.RowKit Base
set_option maxRecDepth 100000 in
theorem wpList_store_pai {ops : Array Oper} {rest : List Oper} {o : Oper} {a : Act} {w : World} {Q : Exit → Act → World → Prop} (hgd : o.guard = none) (x y : Operand) (ho : o.op = .store 56 x y)
    (g : Nat) (c c0 : Pai) (hx : a.eval x = .pointer (some ⟨g, 0, none⟩)) (hy : a.eval y = .agg #[.int .i64 c.k, .int .i64 c.v]) (hg : w.heap[g]? = some (boxP c0))
    (h : ∀ w', Stored w g (boxP c) w' → wpList Try.prog ops Q rest (a.put o.dst undef) w') : wpList Try.prog ops Q (o :: rest) a w :=
  wpList_store_row hgd _ x y ho g _ hx hy 56 _ hg (by kernel_rfl) rfl (by simp [Value.oneCell']) (h _ (stored_setRow _ _ _ _ _ hg))
/-- What At leaves. -/
def PaiBoolM (p : Pai) (is : Bool) (w : World) (e : Ending) (w' : World) : Prop := e = .returned (.tuple #[.agg #[.int .i64 p.k, .int .i64 p.v], .bool is]) ∧ Below w.heap.size w w'
end Go.Proofs.Ytpbkclciipmonaa.F
namespace Go.Proofs.Ytpbkclciipmonaa.F
open Go.ChangeShapes Go.WideShapes Go.ChangeAt Go.RowKit Base
/-- By rising keys. -/
def SortL (l : List Pai) : Prop := l.Pairwise fun a b => a.k < b.k
theorem SortL.node {l r : List Pai} {p : Pai} (h : SortL (l ++ p :: r)) : SortL l ∧ SortL r ∧ (∀ x ∈ l, x.k < p.k) ∧ (∀ x ∈ r, p.k < x.k) := by
  unfold SortL at *
  rw [List.pairwise_append, List.pairwise_cons] at h
  exact ⟨h.1, h.2.1.2, fun x hx => h.2.2 x hx p (List.mem_cons_self ..), h.2.1.1⟩
theorem SortL.mk {l r : List Pai} {p : Pai} (h1 : SortL l) (h2 : SortL r) (h3 : ∀ x ∈ l, x.k < p.k) (h4 : ∀ x ∈ r, p.k < x.k) : SortL (l ++ p :: r) := by
  unfold SortL at *
  rw [List.pairwise_append, List.pairwise_cons]
  refine ⟨h1, ⟨h4, h2⟩, fun x hx y hy => ?_⟩
  rcases List.mem_cons.1 hy with rfl | hy
  · exact h3 x hx
  · exact Int.lt_trans (h3 x hx) (h4 y hy)
/-- A tree, parted at a key: what is less, what is greater; what is found, put in, taken out there. -/
theorem split_tree (key val : Int) (t : Tre) (h : SortL t.list) : ∃ A B, (∀ p ∈ A, p.k < key) ∧ (∀ p ∈ B, key < p.k) ∧ ((t.has key = false ∧ t.list = A ++ B ∧ t.look key = (0, false)) ∨ ∃ v, t.has key = true ∧ t.list = A ++ ⟨key, v⟩ :: B ∧ t.look key = (v, true)) ∧
    (Tre.ins key val t).list = A ++ ⟨key, val⟩ :: B ∧ (t.has key = true → (Tre.del key t).list = A ++ B) ∧ t.rank key = A.length := by
  induction t with
  | nil => exact ⟨[], [], by simp, by simp, .inl ⟨rfl, rfl, rfl⟩, rfl, fun h => absurd h (by simp [Tre.has]), rfl⟩
  | node l k v r ihl ihr =>
    obtain ⟨h1, h2, h3, h4⟩ := SortL.node (p := ⟨k, v⟩) h
    simp only at h3 h4
    rcases (show key < k ∨ k < key ∨ key = k by omega) with hk | hk | hk
    · obtain ⟨A, B, a1, a2, a3, a4, a5, a6⟩ := ihl h1
      refine ⟨A, B ++ ⟨k, v⟩ :: r.list, a1, fun p hp => ?_, ?_, ?_, fun hh => ?_, ?_⟩
      · rcases List.mem_append.1 hp with hp | hp
        · exact a2 p hp
        · rcases List.mem_cons.1 hp with rfl | hp
          · exact hk
          · exact Int.lt_trans hk (h4 p hp)
      · simp only [Tre.has, Tre.look, if_pos hk, Tre.list]
        rcases a3 with ⟨b1, b2, b3⟩ | ⟨v', b1, b2, b3⟩
        · exact .inl ⟨b1, by rw [b2, List.append_assoc], b3⟩
        · exact .inr ⟨v', b1, by rw [b2]; simp, b3⟩
      · simp only [Tre.ins, if_pos hk]
        rw [Tre.lev_list, a4]; simp
      · simp only [Tre.has, if_pos hk] at hh
        simp only [Tre.del, if_pos hk]
        rw [Tre.lev_list, a5 hh]; simp
      · simp only [Tre.rank, if_pos (Int.le_of_lt hk)]
        exact a6
    · obtain ⟨A, B, a1, a2, a3, a4, a5, a6⟩ := ihr h2
      have hn : ¬ key < k := by omega
      refine ⟨l.list ++ ⟨k, v⟩ :: A, B, fun p hp => ?_, a2, ?_, ?_, fun hh => ?_, ?_⟩
      · rcases List.mem_append.1 hp with hp | hp
        · exact Int.lt_trans (h3 p hp) hk
        · rcases List.mem_cons.1 hp with rfl | hp
          · exact hk
          · exact a1 p hp
      · simp only [Tre.has, Tre.look, if_neg hn, if_pos hk, Tre.list]
        rcases a3 with ⟨b1, b2, b3⟩ | ⟨v', b1, b2, b3⟩
        · exact .inl ⟨b1, by rw [b2]; simp, b3⟩
        · exact .inr ⟨v', b1, by rw [b2]; simp, b3⟩
      · simp only [Tre.ins, if_neg hn, if_pos hk]
        rw [Tre.lev_list, a4]; simp
      · simp only [Tre.has, if_neg hn, if_pos hk] at hh
        simp only [Tre.del, if_neg hn, if_pos hk]
        rw [Tre.lev_list, a5 hh]; simp
      · simp only [Tre.rank, if_neg (show ¬ key ≤ k by omega)]
        rw [a6, List.length_append, List.length_cons, Tre.list_len]; omega
    · subst hk
      refine ⟨l.list, r.list, h3, h4, .inr ⟨v, ?_, rfl, ?_⟩, ?_, fun _ => ?_, ?_⟩
      · simp [Tre.has]
      · simp [Tre.look]
      · simp only [Tre.ins, if_neg (Int.lt_irrefl _)]
        exact Tre.lev_list ..
      · by_cases e1 : l = .nil
        · subst e1; simp [Tre.del, Tre.list]
        · by_cases e2 : r = .nil
          · subst e2
            cases l with
            | nil => exact absurd rfl e1
            | node => simp [Tre.del, Tre.list]
          · rw [Tre.del_eq _ _ _ _ e1 e2, Tre.lev_list, Tre.pop_list e2]
      · simp only [Tre.rank, if_pos (Int.le_refl _)]
        have hz : ∀ (t : Tre), SortL t.list → (∀ x ∈ t.list, x.k < key) → t.rank key = t.size := by
          intro t
          induction t with
          | nil => intros; rfl
          | node l k v r _ ih =>
            intro h hx
            obtain ⟨_, g2, _, _⟩ := SortL.node (p := ⟨k, v⟩) h
            have hk : k < key := hx ⟨k, v⟩ (by simp [Tre.list])
            simp only [Tre.rank, if_neg (show ¬ key ≤ k by omega), Tre.size]
            rw [ih g2 (fun x hx' => hx x (by simp [Tre.list, hx']))]
        rw [hz l h1 h3, Tre.list_len]
theorem putF_low (key val : Int) : ∀ (A : List Pai) (s : List Pai), (∀ p ∈ A, p.k < key) → A.foldl (putStep key val) (s, false) = (s ++ A, false)
  | [], s, _ => by simp
  | p :: A, s, h => by
    have hp : p.k < key := h p (List.mem_cons_self ..)
    have h1 : (p.k == key) = false := by rw [beq_eq_false_iff_ne]; omega
    have h2 : decide (key ≤ p.k) = false := by rw [decide_eq_false_iff_not]; omega
    rw [List.foldl_cons, show putStep key val (s, false) p = (s ++ [p], false) by unfold putStep; simp [h1, h2], putF_low key val A _ (fun q hq => h q (List.mem_cons_of_mem _ hq))]
    simp
theorem putF_high (key val : Int) : ∀ (B : List Pai) (s : List Pai), (∀ p ∈ B, key < p.k) → B.foldl (putStep key val) (s, true) = (s ++ B, true)
  | [], s, _ => by simp
  | p :: B, s, h => by
    have hp : key < p.k := h p (List.mem_cons_self ..)
    have h1 : (p.k == key) = false := by rw [beq_eq_false_iff_ne]; omega
    rw [List.foldl_cons, show putStep key val (s, true) p = (s ++ [p], true) by unfold putStep; simp [h1], putF_high key val B _ (fun q hq => h q (List.mem_cons_of_mem _ hq))]
    simp
theorem putL_new {key val : Int} {A B : List Pai} (hA : ∀ p ∈ A, p.k < key) (hB : ∀ p ∈ B, key < p.k) : putL key val (A ++ B) = A ++ ⟨key, val⟩ :: B := by
  unfold putL putF
  rw [List.foldl_append, putF_low key val A [] hA, List.nil_append]
  cases B with
  | nil => simp
  | cons p B =>
    have hp : key < p.k := hB p (List.mem_cons_self ..)
    have h1 : (p.k == key) = false := by rw [beq_eq_false_iff_ne]; omega
    have h2 : decide (key ≤ p.k) = true := by rw [decide_eq_true_eq]; omega
    rw [List.foldl_cons, show putStep key val (A, false) p = (A ++ [⟨key, val⟩] ++ [p], true) by unfold putStep; simp [h1, h2], putF_high key val B _ (fun q hq => hB q (List.mem_cons_of_mem _ hq))]
    simp
theorem putL_old {key val v : Int} {A B : List Pai} (hA : ∀ p ∈ A, p.k < key) (hB : ∀ p ∈ B, key < p.k) : putL key val (A ++ ⟨key, v⟩ :: B) = A ++ ⟨key, val⟩ :: B := by
  unfold putL putF
  rw [List.foldl_append, putF_low key val A [] hA, List.nil_append, List.foldl_cons, show putStep key val (A, false) ⟨key, v⟩ = (A ++ [⟨key, val⟩], true) by unfold putStep; simp, putF_high key val B _ hB]
  simp
theorem delL_ne {key : Int} {A : List Pai} (h : ∀ p ∈ A, p.k ≠ key) : delL key A = A ∧ hasL key A = false ∧ A.find? (fun p => p.k == key) = none := by
  refine ⟨?_, ?_, ?_⟩
  · unfold delL
    rw [List.filter_eq_self]
    intro p hp
    simp [h p hp]
  · unfold hasL
    rw [List.any_eq_false]
    intro p hp
    simp [h p hp]
  · rw [List.find?_eq_none]
    intro p hp
    simp [h p hp]
theorem rankL_all {key : Int} {A : List Pai} (h : ∀ p ∈ A, p.k < key) : rankL key A = A.length := by
  unfold rankL
  rw [List.countP_eq_length]
  intro p hp
  simp [h p hp]
theorem rankL_none {key : Int} {A : List Pai} (h : ∀ p ∈ A, key ≤ p.k) : rankL key A = 0 := by
  unfold rankL
  rw [List.countP_eq_zero]
  intro p hp
  simp [h p hp]
/-- The tree and the list say the same. -/
theorem link (key val : Int) (t : Tre) (h : SortL t.list) : (Tre.ins key val t).list = putL key val t.list ∧ SortL (Tre.ins key val t).list ∧ t.has key = hasL key t.list ∧ t.look key = getL key t.list ∧ t.rank key = rankL key t.list ∧ (t.has key = true → (Tre.del key t).list = delL key t.list ∧ SortL (Tre.del key t).list) := by
  obtain ⟨A, B, a1, a2, a3, a4, a5, a6⟩ := split_tree key val t h
  have hAn : ∀ p ∈ A, p.k ≠ key := fun p hp e => by have := a1 p hp; omega
  have hBn : ∀ p ∈ B, p.k ≠ key := fun p hp e => by have := a2 p hp; omega
  have dA := delL_ne hAn
  have dB := delL_ne hBn
  have hrank : ∀ M : List Pai, (∀ p ∈ M, key ≤ p.k) → t.list = A ++ M → t.rank key = rankL key t.list := fun M hM e => by
    rw [a6, e]
    unfold rankL
    rw [List.countP_append]
    have h1 := rankL_all a1
    have h2 := rankL_none hM
    unfold rankL at h1 h2
    rw [h1, h2]; omega
  rcases a3 with ⟨b1, b2, b3⟩ | ⟨v, b1, b2, b3⟩
  · have hsA : SortL A ∧ SortL B := by unfold SortL at *; rw [b2, List.pairwise_append] at h; exact ⟨h.1, h.2.1⟩
    refine ⟨by rw [a4, b2, putL_new a1 a2], by rw [a4]; exact SortL.mk hsA.1 hsA.2 a1 a2, ?_, ?_, hrank B (fun p hp => Int.le_of_lt (a2 p hp)) b2, fun hh => by rw [b1] at hh; cases hh⟩
    · rw [b1, b2]; unfold hasL at *; rw [List.any_append, dA.2.1, dB.2.1]; rfl
    · rw [b3, b2]; unfold getL; rw [List.find?_append, dA.2.2, dB.2.2]; rfl
  · rw [b2] at h
    obtain ⟨c1, c2, _, _⟩ := SortL.node h
    refine ⟨by rw [a4, b2, putL_old a1 a2], by rw [a4]; exact SortL.mk c1 c2 a1 a2, ?_, ?_, hrank (⟨key, v⟩ :: B) (fun p hp => ?_) b2, fun hh => ⟨?_, ?_⟩⟩
    · rw [b1, b2]; unfold hasL; rw [List.any_append, List.any_cons]; simp
    · rw [b3, b2]; unfold getL; rw [List.find?_append, dA.2.2, List.find?_cons]; simp
    · rcases List.mem_cons.1 hp with rfl | hp
      · exact Int.le_refl _
      · exact Int.le_of_lt (a2 p hp)
    · rw [a5 hh, b2]; unfold delL at *; rw [List.filter_append, List.filter_cons, dA.1, dB.1]; simp
    · rw [a5 hh]; unfold SortL at *; rw [List.pairwise_append]
      exact ⟨c1, c2, fun x hx y hy => Int.lt_trans (a1 x hx) (a2 y hy)⟩
theorem nth_list : ∀ (t : Tre) (i : Int), (0 ≤ i ∧ i < (t.size : Int) → t.nth i = (t.list.getD i.toNat Pai.zero, true)) ∧ (¬ (0 ≤ i ∧ i < (t.size : Int)) → t.nth i = (Pai.zero, false))
  | .nil, i => ⟨fun h => by simp only [Tre.size] at h; omega, fun _ => rfl⟩
  | .node l k v r, i => by
    have hl := nth_list l i
    have hr := nth_list r (i - ((l.size : Int) + 1))
    have e := Tre.list_len l
    simp only [Tre.nth, Tre.size, Tre.list]
    refine ⟨fun h => ?_, fun h => ?_⟩
    · split
      · rw [hl.1 (by omega), List.getD_eq_getElem?_getD, List.getD_eq_getElem?_getD, List.getElem?_append_left (by omega)]
      · split
        · rw [hr.1 (by omega), List.getD_eq_getElem?_getD, List.getD_eq_getElem?_getD, List.getElem?_append_right (by omega), show i.toNat - l.list.length = (i - ((l.size : Int) + 1)).toNat + 1 by omega, List.getElem?_cons_succ]
        · rw [List.getD_eq_getElem?_getD, List.getElem?_append_right (by omega), show i.toNat - l.list.length = 0 by omega]; rfl
    · split
      · exact hl.2 (by omega)
      · split
        · exact hr.2 (by omega)
        · omega
theorem sq_step {m a b : Nat} (ha : 2 ^ m ≤ a * a) (hb : 2 ^ m ≤ 2 * (b * b)) : 2 ^ (m + 1) ≤ (a + b) * (a + b) := by
  have e : (a + b) * (a + b) = a * a + a * b + (a * b + b * b) := by rw [Nat.add_mul, Nat.mul_add, Nat.mul_add, Nat.mul_comm b a]
  rw [e, Nat.pow_succ]
  rcases Nat.le_total b a with h | h
  · have : b * b ≤ a * b := Nat.mul_le_mul_right b h
    omega
  · have : a * a ≤ b * b := Nat.mul_le_mul h h
    omega
theorem sq_half {m n b : Nat} (h : 2 ^ n ≤ b * b) (hm : m ≤ n + 1) : 2 ^ m ≤ 2 * (b * b) := by
  have : 2 ^ m ≤ 2 ^ (n + 1) := Nat.pow_le_pow_right (by decide) hm
  rw [Nat.pow_succ] at this
  omega
/-- How many a tree of a height has at least. -/
theorem bal_size : ∀ (t : Tre), t.bal → 2 ^ t.high ≤ (t.size + 1) * (t.size + 1)
  | .nil, _ => by simp [Tre.high, Tre.size]
  | .node l k v r, h => by
    obtain ⟨h1, h2, h3, h4⟩ := h
    have il := bal_size l h1
    have ir := bal_size r h2
    simp only [Tre.high, Tre.size]
    rcases Nat.le_total r.high l.high with e | e
    · rw [Nat.max_eq_left e, Nat.add_comm 1]
      have := sq_step il (sq_half ir h3)
      rwa [show l.size + 1 + (r.size + 1) = l.size + 1 + r.size + 1 by omega] at this
    · rw [Nat.max_eq_right e, Nat.add_comm 1]
      have := sq_step ir (sq_half il h4)
      rwa [show r.size + 1 + (l.size + 1) = l.size + 1 + r.size + 1 by omega] at this
end Go.Proofs.Ytpbkclciipmonaa.F
namespace Go.Proofs.Ytpbkclciipmonaa.F
open Go.ChangeShapes Go.WideShapes Go.ChangeAt Go.RowKit Base
theorem MP.step {pv : Value} {o : Option Nat} {room : Nat} {zs : List Cel} {P : List Cel → Int → Prop} {Z : Prop} {w : World} {e : Ending} {w' : World} (h : MP pv o room zs P Z w e w') : ∃ root' why zs', ArStep pv o room zs' (.tuple #[.agg #[pv, .int .i64 root'], .int .i64 why]) w e w' ∧ Hid (MRes P Z zs zs' root' why) := by
  obtain ⟨root', why, zs', o', he, h1, h2, h3, h4⟩ := h
  exact ⟨root', why, zs', ⟨he, o', h1, h2, h3⟩, Lib.hid h4⟩
theorem MP.nil_put {P : List Cel → Int → Prop} {Z : Prop} {w : World} {e : Ending} {w' : World} (h : MP (.pointer none) none 0 [] P Z w e w') (hP : ∀ root', ¬ P [] root') : e = .returned (.tuple #[.agg #[.pointer none, .int .i64 0], .int .i64 2]) ∧ Below w.heap.size w w' := by
  obtain ⟨root', why, zs', o', he, h1, h2, h3, h4⟩ := h
  have hz : zs' = [] := by
    rcases h1 with ⟨_, _, _, h⟩ | ⟨b, h, _⟩
    · exact h
    · cases h
  subst hz
  rcases h4 with ⟨_, h⟩ | ⟨rfl, _, rfl, _⟩
  · exact absurd h (hP _)
  · exact ⟨he, h3.below (fun g hg => by rcases hg with k | k <;> cases k) (Nat.le_refl _)⟩
theorem wp_alloc_map {o : Oper} {a : Act} {w : World} {K : Act → World → Prop} {Q : Exit → Act → World → Prop} (ho : o.op = .alloc 53)
    (h : ∀ g w', g = w.heap.size → w' = w.alloc (boxM (.pointer none) 0) → K (a.put o.dst (.pointer (some ⟨g, 0, none⟩))) w') : o.wp Try.prog a w K Q := by
  obtain ⟨dst, op, type, pos, after, guard⟩ := o
  simp only at ho
  subst ho
  go_simp
  exact h _ _ rfl rfl
/-- A box of the call's own is stored into. -/
theorem PS.store {w0 w w' : World} {pv : Value} {o : Option Nat} {room : Nat} {zs : List Cel} {bs : List (Nat × Obj)} {g : Nat} {ob ob' : Obj} (h : PS w0 w pv o room zs (.slice none 0 0) [] ((g, ob) :: bs)) (hn : ∀ p ∈ bs, p.1 ≠ g) (h0 : w0.heap.size ≤ g) (hs : Stored w g ob' w') : PS w0 w' pv o room zs (.slice none 0 0) [] ((g, ob') :: bs) := by
  obtain ⟨⟨k1, k2, k3⟩, _, k5⟩ := h
  have hg := k5 (g, ob) (List.mem_cons_self ..)
  have hf : Fr (fun k => k = g) w w' := ⟨hs.1, hs.2.1, hs.2.2.1, by rw [hs.2.2.2.1]; exact Nat.le_refl _, fun k _ hn => hs.2.2.2.2.2 k hn⟩
  refine ⟨⟨k1.fr hf (fun k hv e => hg.2 (e ▸ hv)), hs.below k2 h0, k3⟩, QS.nil _ _ _, fun p hp => ?_⟩
  rcases List.mem_cons.1 hp with rfl | hp
  · exact ⟨hs.2.2.2.2.1, hg.2⟩
  · have := k5 p (List.mem_cons_of_mem _ hp)
    exact ⟨(hs.2.2.2.2.2 p.1 (hn p hp)).trans this.1, this.2⟩
theorem ins_size1 (key val : Int) (t : Tre) : t.size ≤ (Tre.ins key val t).size ∧ (Tre.ins key val t).size ≤ t.size + 1 ∧ 1 ≤ (Tre.ins key val t).size := by
  induction t with
  | nil => simp [Tre.ins, Tre.size]
  | node l k v r h1 h2 =>
    have hl : ∀ (l : Tre) (k v : Int) (r : Tre), (Tre.lev l k v r).size = l.size + 1 + r.size := fun l k v r => by
      rw [← Tre.list_len, Tre.lev_list, List.length_append, List.length_cons, Tre.list_len, Tre.list_len]; omega
    simp only [Tre.ins]
    split
    · rw [hl]; simp only [Tre.size]; omega
    · split
      · rw [hl]; simp only [Tre.size]; omega
      · rw [hl]; simp only [Tre.size]; omega
/-- How high a tree is at most. -/
theorem high_le {t : Tre} (hb : t.bal) {n m : Nat} (hs : t.size ≤ n) (hm : (n + 1) * (n + 1) < 2 ^ (m + 1)) : t.high ≤ m := by
  have h := bal_size t hb
  have h2 : (t.size + 1) * (t.size + 1) ≤ (n + 1) * (n + 1) := Nat.mul_le_mul (by omega) (by omega)
  have h3 : 2 ^ t.high < 2 ^ (m + 1) := Nat.lt_of_le_of_lt (Nat.le_trans h h2) hm
  have := (Nat.pow_lt_pow_iff_right (by decide : 1 < 2)).1 h3
  omega
theorem SortL.lt {l : List Pai} (h : SortL l) {i j : Nat} (hij : i < j) (hj : j < l.length) : (l.getD i Pai.zero).k < (l.getD j Pai.zero).k := by
  rw [List.getD_eq_getElem?_getD, List.getD_eq_getElem?_getD, List.getElem?_eq_getElem (by omega), List.getElem?_eq_getElem hj]
  exact (List.pairwise_iff_getElem.1 h) i j (by omega) hj hij
theorem SortL.rank {l : List Pai} (h : SortL l) {j : Nat} (hj : j < l.length) : rankL (l.getD j Pai.zero).k l = j := by
  have e : l = l.take j ++ l.drop j := (List.take_append_drop j l).symm
  have h1 : ∀ p ∈ l.take j, p.k < (l.getD j Pai.zero).k := fun p hp => by
    obtain ⟨i, hi, rfl⟩ := List.getElem_of_mem hp
    have hi' : i < j ∧ i < l.length := by rw [List.length_take] at hi; omega
    have := h.lt hi'.1 hj
    rw [List.getD_eq_getElem?_getD, List.getElem?_eq_getElem hi'.2] at this
    rw [List.getElem_take]
    exact this
  have h2 : ∀ p ∈ l.drop j, (l.getD j Pai.zero).k ≤ p.k := fun p hp => by
    obtain ⟨i, hi, rfl⟩ := List.getElem_of_mem hp
    have hi' : i < l.length - j := by simpa using hi
    rw [List.getElem_drop]
    by_cases h0 : i = 0
    · subst h0
      rw [List.getD_eq_getElem?_getD, List.getElem?_eq_getElem hj]; exact Int.le_refl _
    · have := h.lt (show j < j + i by omega) (by omega)
      rw [List.getD_eq_getElem?_getD (l := l) (i := j + i), List.getElem?_eq_getElem (by omega)] at this
      exact Int.le_of_lt this
  have h3 := rankL_all h1
  have h4 := rankL_none h2
  generalize (l.getD j Pai.zero).k = key at h3 h4 ⊢
  have : rankL key l = rankL key (l.take j) + rankL key (l.drop j) := by
    unfold rankL
    rw [← List.countP_append, List.take_append_drop]
  rw [this, h3, h4, List.length_take]; omega
end Go.Proofs.Ytpbkclciipmonaa.F
namespace Go.Proofs.Ytpbkclciipmonaa.F
open Go.ChangeShapes Go.WideShapes Go.ChangeAt Go.RowKit Base
/-- The block p holds the slice v of n elements of S cells, whose cells are xs; its block may be longer. -/
def RowB (T : TypeId) (S : Nat) (p : Nat × Obj) (v : Value) (n : Nat) (xs : List Value) : Prop :=
  xs.length = n * S ∧ ∃ cap cur, p.2 = .cells cur T (0, 0) ∧ v = .slice (some ⟨p.1, 0, none⟩) n cap ∧ n ≤ cap ∧ cap ≤ maxLen ∧ cur.size = cap * S ∧ cur.toList.take (n * S) = xs
theorem RowB.own {T : TypeId} {S B : Nat} {p : Nat × Obj} {v : Value} {n : Nat} {xs : List Value} {w : World} (h : RowB T S p v n xs) (hw : w.heap[p.1]? = some p.2) (hB : B ≤ p.1) : w.ownsRow B T S v n xs := by
  obtain ⟨h1, cap, cur, h2, h3, h4, h5, h6, h7⟩ := h
  exact ⟨h1, .inr ⟨p.1, cap, cur, h3, hB, by rw [hw, h2], h4, h5, h6, h7⟩⟩
theorem RowB.of {T : TypeId} {S B : Nat} {v : Value} {n : Nat} {xs : List Value} {w : World} (h : w.ownsRow B T S v n xs) (hn : 0 < n) : ∃ p, RowB T S p v n xs ∧ w.heap[p.1]? = some p.2 ∧ B ≤ p.1 ∧ v.ownBlock = some p.1 := by
  obtain ⟨h1, h⟩ := h
  rcases h with ⟨_, h0⟩ | ⟨g, cap, cur, hv, hB, hg, h2, h3, h4, h5⟩
  · omega
  · exact ⟨(g, .cells cur T (0, 0)), ⟨h1, cap, cur, rfl, hv, h2, h3, h4, h5⟩, hg, hB, by rw [hv]; rfl⟩
theorem RowB.block {T : TypeId} {S : Nat} {p : Nat × Obj} {v : Value} {n : Nat} {xs : List Value} (h : RowB T S p v n xs) : v.ownBlock = some p.1 := by
  obtain ⟨_, cap, cur, _, hv, _⟩ := h
  rw [hv]; rfl
/-- The cells of one element. -/
theorem RowB.open_ {T : TypeId} {S : Nat} {p : Nat × Obj} {v : Value} {n : Nat} {xs : List Value} (h : RowB T S p v n xs) : ∃ g cap, p.1 = g ∧ v = .slice (some ⟨g, 0, none⟩) n cap ∧ n ≤ cap ∧ ∀ w : World, w.heap[p.1]? = some p.2 → g < w.heap.size ∧ ∀ k, k < n * S → w.cell? ⟨g, k, none⟩ = xs[k]? := by
  obtain ⟨h1, cap, cur, h2, h3, h4, h5, h6, h7⟩ := h
  refine ⟨p.1, cap, rfl, h3, h4, fun w hw => ⟨heap_lt hw, fun k hk => ?_⟩⟩
  rw [h2] at hw
  have : n * S ≤ cap * S := Nat.mul_le_mul_right S h4
  have hx : xs[k]? = cur[k]? := by
    rw [← h7, List.getElem?_take, if_pos hk, Array.getElem?_toList]
  rw [hx]
  simp [World.cell?, hw]
/-- One that is typed out. -/
theorem RowB.lit {T : TypeId} {S : Nat} {g : Nat} {xs : List Value} (hl : xs.length = S) : RowB T S (g, .cells xs.toArray T (0, 0)) (.slice (some ⟨g, 0, none⟩) 1 1) 1 xs :=
  ⟨by omega, 1, xs.toArray, rfl, rfl, Nat.le_refl _, by simp [maxLen], by simpa using hl, by rw [List.take_of_length_le (by simp; omega)]⟩
section
variable {w0 w w' : World} {pv : Value} {o : Option Nat} {room : Nat} {zs : List Cel}
/-- A block that has come up since is kept, too. -/
theorem PS.keepNew {wa : World} {bs : List (Nat × Obj)} {g : Nat} {ob : Obj} (h : PS w0 wa pv o room zs (.slice none 0 0) [] bs) (hb : Below wa.heap.size wa w) (hg : w.heap[g]? = some ob) (h0 : wa.heap.size ≤ g) : PS w0 w pv o room zs (.slice none 0 0) [] ((g, ob) :: bs) := by
  have h2 := h.below hb
  refine ⟨h2.1, h2.2.1, fun p hp => ?_⟩
  rcases List.mem_cons.1 hp with rfl | hp
  · exact ⟨hg, fun k => by have := h.1.1.lt g k; omega⟩
  · exact h2.2.2 p hp
/-- A box, whose block has a name. -/
theorem PS.addAt {bs : List (Nat × Obj)} {g : Nat} (h : PS w0 w pv o room zs (.slice none 0 0) [] bs) (ob : Obj) (e : g = w.heap.size) : PS w0 (w.alloc ob) pv o room zs (.slice none 0 0) [] ((g, ob) :: bs) := by
  subst e
  exact h.add ob
/-- A block of the call's own is grown: it is another one, or holds more; all others stay. -/
theorem PS.grow {bs : List (Nat × Obj)} {p p' : Nat × Obj} (h : PS w0 w pv o room zs (.slice none 0 0) [] (p :: bs)) (hn : ∀ q ∈ bs, q.1 ≠ p.1) (h0 : w0.heap.size ≤ p.1) (hg : w.grownBy w' (some p.1)) (hp : w'.heap[p'.1]? = some p'.2) (he : p'.1 = p.1 ∨ p'.1 = w.heap.size) :
    PS w0 w' pv o room zs (.slice none 0 0) [] (p' :: bs) ∧ (∀ q ∈ bs, q.1 ≠ p'.1) ∧ w0.heap.size ≤ p'.1 := by
  obtain ⟨⟨k1, k2, k3⟩, _, k5⟩ := h
  have hp0 := k5 p (List.mem_cons_self ..)
  have hf : Fr (fun k => k = p.1) w w' := Fr.of_grown hg fun k hk => by injection hk with hk; exact hk.symm
  have hs := k2.size
  refine ⟨⟨⟨k1.fr hf (fun k hv e => hp0.2 (e ▸ hv)), ?_, k3⟩, QS.nil _ _ _, fun q hq => ?_⟩, fun q hq => ?_, ?_⟩
  · exact k2.grown hg hs (fun b hb => by injection hb with hb; omega)
  · rcases List.mem_cons.1 hq with rfl | hq
    · refine ⟨hp, ?_⟩
      rcases he with e | e
      · rw [e]; exact hp0.2
      · intro k; have := k1.lt _ k; omega
    · have := k5 q (List.mem_cons_of_mem _ hq)
      exact ⟨(hf.block (heap_lt this.1) (hn q hq)).trans this.1, this.2⟩
  · have := k5 q (List.mem_cons_of_mem _ hq)
    rcases he with e | e
    · rw [e]; exact hn q hq
    · have := heap_lt this.1; omega
  · rcases he with e | e <;> omega
end
/-- One more element is put behind a slice of the call's own. -/
theorem append_row {ops : Array Oper} {rest : List Oper} {oo : Oper} {a : Act} {Q : Exit → Act → World → Prop} (hgd : oo.guard = none) (s x : Operand) {T L : TypeId} {S bytes : Nat} {i0 : TypeInfo} {z : Value}
    (ho : oo.op = .call { callee := .builtin .append, args := #[s, x], argTypes := #[L, L] })
    (hL : Try.prog.underlying L = some (.slice T)) (hi : Try.prog.info? T = some i0) (hz : i0.zero = some z) (hs1 : i0.size = S) (hby : i0.bytes = bytes) (hzs : z.cells.size = S) (hS : 0 < S) (hbytes : bytes ≤ 1000)
    {w : World} {v : Value} {p : Nat × Obj} {n : Nat} {xs ys : List Value} {g' c : Nat} (h : RowB T S p v n xs) (hp : w.heap[p.1]? = some p.2) (hs : a.eval s = v) (hx : a.eval x = .slice (some ⟨g', 0, none⟩) 1 c) (hg : w.heap[g']? = some (.cells ys.toArray T))
    (hy : ys.length = S) (hone : ∀ u ∈ ys, u.oneCell' = true) (hl : n ≤ 100000)
    (hK : ∀ v' w' p', RowB T S p' v' (n + 1) (xs ++ ys) → w'.heap[p'.1]? = some p'.2 → w.grownBy w' (some p.1) → (p'.1 = p.1 ∨ p'.1 = w.heap.size) → wpList Try.prog ops Q rest (a.put oo.dst v') w') :
    wpList Try.prog ops Q (oo :: rest) a w := by
  refine wpList_plain hgd fun K hK' => ?_
  have hlt := heap_lt hp
  obtain ⟨v', w', hr, h2, h3, _, h5⟩ := run_append_own_at (P := Try.prog) w 0 L oo.type T i0 z S bytes hL hi hz hs1 hby hzs hS v n xs (h.own hp (Nat.zero_le _)) ⟨g', 0, none⟩ 1 c ys (by omega) (fun j u hu => by
    rw [add_plain]
    simp [World.cell?, hg, hu]) hone (by simp only [maxLen]; omega) (by
      have : (n + 1) * bytes ≤ 100001 * 1000 := Nat.mul_le_mul (by omega) hbytes
      omega) (Nat.zero_le _)
  obtain ⟨p', hp1, hp2, _, hp3⟩ := RowB.of h2 (by omega)
  rw [h.block] at h3 h5
  rw [hp3] at h5
  unfold Oper.wp execOp
  simp only [ho, resolve, invoke, builtin, Sem.run_bind, Sem.run_pure, Result.andThen_ok, List.map_toArray, List.map_cons, List.map_nil, hs, hx, hr]
  refine hK' _ _ (hK v' w' p' hp1 hp2 h3 ?_)
  rcases h5 with e | e <;> injection e with e
  · exact .inl e
  · exact .inr e
/-- A list of pairs, in a block that is kept; or there is none. -/
def LV (es : List (Nat × Obj)) (v : Value) (l : List Pai) : Prop := (l = [] ∧ ∃ p c, v = .slice p 0 c ∧ (p = none → c = 0)) ∨ ∃ p ∈ es, RowB 56 2 p v l.length (l.flatMap Pai.vals)
theorem LV.mono {es es' : List (Nat × Obj)} {v : Value} {l : List Pai} (h : LV es v l) (hm : ∀ p ∈ es, p ∈ es') : LV es' v l := by
  rcases h with h | ⟨p, hp, h⟩
  · exact .inl h
  · exact .inr ⟨p, hm p hp, h⟩
theorem LV.pais {es : List (Nat × Obj)} {v : Value} {l : List Pai} {w : World} (h : LV es v l) (hw : ∀ p ∈ es, w.heap[p.1]? = some p.2) (hl : l.length ≤ 100000) : Pais 0 w v l := by
  rcases h with ⟨rfl, p, c, hv, hp⟩ | ⟨p, hp, h⟩
  · exact .inl ⟨⟨p, c, hv, hp⟩, rfl⟩
  · exact OwnPai.list (h.own (hw p hp) (Nat.zero_le _)) (by omega)
/-- A list that a call has made is kept. -/
theorem PS.list {w0 wa w : World} {pv : Value} {o : Option Nat} {room : Nat} {zs : List Cel} {bs : List (Nat × Obj)} {v : Value} {l : List Pai} (h : PS w0 wa pv o room zs (.slice none 0 0) [] bs) (hb : Below wa.heap.size wa w) (hv : OwnPai wa.heap.size w v l) :
    ∃ nb, PS w0 w pv o room zs (.slice none 0 0) [] (nb ++ bs) ∧ LV nb v l ∧ ∀ p ∈ nb, wa.heap.size ≤ p.1 := by
  by_cases h0 : l.length = 0
  · refine ⟨[], h.below hb, .inl ⟨List.length_eq_zero_iff.1 h0, ?_⟩, fun p hp => by cases hp⟩
    rcases hv.2 with ⟨e, _⟩ | ⟨g, cap, cur, e, _⟩
    · exact ⟨_, _, e, fun _ => rfl⟩
    · rw [h0] at e; exact ⟨_, _, e, fun k => by cases k⟩
  · obtain ⟨p, h1, h2, h3, _⟩ := RowB.of hv (by omega)
    exact ⟨[p], h.keepNew hb h2 h3, .inr ⟨p, List.mem_singleton.2 rfl, h1⟩, fun q hq => by rw [List.mem_singleton.1 hq]; exact h3⟩
end Go.Proofs.Ytpbkclciipmonaa.F
