/-
  Contracts of the editor: edit, done. Not a statement of the seat.
-/
import Derived.Test.YtbgepeokadmemaaHead3
import Derived.Deep.Cut
import Derived.Deep.CutRange
import Derived.Deep.DeepCutAuto
import Derived.Deep.RegionHeld3
namespace Go.Proofs.Ytbgepeokadmemaa.F
open Go.ChangeShapes Go.WideShapes Go.ChangeAt Go.RowKit Base
theorem cellsS {w : World} {g : Nat} {pv : Value} {root : Int} (h : w.heap[g]? = some (boxS pv root)) : g < w.heap.size ∧ w.cell? ⟨g, 0, none⟩ = some pv ∧ w.cell? ⟨g, 1, none⟩ = some (.int .i64 root) := by
  refine ⟨heap_lt h, ?_⟩
  unfold boxS at h
  simp [World.cell?, h]
set_option maxRecDepth 100000 in
theorem wpList_store_seq {ops : Array Oper} {rest : List Oper} {o : Oper} {a : Act} {w : World} {Q : Exit → Act → World → Prop} (hgd : o.guard = none) (x y : Operand) (ho : o.op = .store 27 x y)
    (g : Nat) (p p0 : Option Addr) (r r0 : Int) (hx : a.eval x = .pointer (some ⟨g, 0, none⟩)) (hy : a.eval y = .agg #[.pointer p, .int .i64 r]) (hg : w.heap[g]? = some (boxS (.pointer p0) r0))
    (h : ∀ w', Stored w g (boxS (.pointer p) r) w' → wpList Try.prog ops Q rest (a.put o.dst undef) w') : wpList Try.prog ops Q (o :: rest) a w :=
  wpList_store_row hgd _ x y ho g _ hx hy 27 _ hg (by kernel_rfl) rfl (by simp [Value.oneCell']) (h _ (stored_setRow _ _ _ _ _ hg))
set_option maxRecDepth 100000 in
theorem wp_store_seq {o : Oper} {a : Act} {w : World} {K : Act → World → Prop} {Q : Exit → Act → World → Prop} (x y : Operand) (ho : o.op = .store 27 x y)
    (g : Nat) (p p0 : Option Addr) (r r0 : Int) (hx : a.eval x = .pointer (some ⟨g, 0, none⟩)) (hy : a.eval y = .agg #[.pointer p, .int .i64 r]) (hg : w.heap[g]? = some (boxS (.pointer p0) r0))
    (h : ∀ w', Stored w g (boxS (.pointer p) r) w' → K (a.put o.dst undef) w') : o.wp Try.prog a w K Q :=
  wp_store_row _ x y ho g _ hx hy 27 _ hg (by kernel_rfl) rfl (by simp [Value.oneCell']) (h _ (stored_setRow _ _ _ _ _ hg))
/-- What build leaves. -/
def EB (pv : Value) (o : Option Nat) (root : Int) (room : Nat) (zs : List Cel) (w : World) (e : Ending) (w' : World) : Prop := ∃ B, e = .returned (.pointer (some ⟨B, 0, none⟩)) ∧ w.heap.size ≤ B ∧ EDI w' B pv o root (zs.length : Int) room zs 0 ∧ Below w.heap.size w w'
set_option maxRecDepth 100000 in
set_option maxHeartbeats 4000000 in
theorem psedit {pv : Value} {o : Option Nat} {room : Nat} {zs : List Cel} {w : World} (root : Int) (h : ArV w pv o room zs) : Calls Try.prog 30 #[.agg #[pv, .int .i64 root]] w (EB pv o root room zs w) := by
  obtain ⟨a, rfl⟩ := h.ptr
  have HA : Hid (∀ X, Below w.heap.size w X → ArV X (.pointer a) o room zs) := Lib.hid fun X hX => h.below hX
  have HS : Hid (∀ X, Below (w.alloc (boxS (.pointer a) root)).heap.size (w.alloc (boxS (.pointer a) root)) X → X.cell? ⟨w.heap.size, 0, none⟩ = some (.pointer a) ∧ X.cell? ⟨w.heap.size, 1, none⟩ = some (.int .i64 root)) := Lib.hid fun X hX => (cellsS ((hX.block _ (by simp)).trans (heap_alloc_at _ _ _ rfl))).2
  have HB1 : Hid (Below w.heap.size w (w.alloc (boxS (.pointer a) root))) := Lib.hid ((Below.refl _ _).alloc (Nat.le_refl _) _)
  have HB : Hid (Below w.heap.size w (w.alloc (boxS (.pointer a) root)).drew) := Lib.hid ((Below.refl _ _).alloc (Nat.le_refl _) _).drew
  clear h
  go_enter Try.func30, Try.ntmps30
  go_upto_region 1 with fail
  refine wp_region_held_drew (S := (fun X => X.cell? ⟨w.heap.size, 0, none⟩ = some (.pointer a) ∧ X.cell? ⟨w.heap.size, 1, none⟩ = some (.int .i64 root))) (by kernel_rfl) (HS.out _ (Below.refl _ _).drew) (fun hHeld0 => ?_)
  refine wpAnyH_take (i := 0) (v := ?_) rfl (by kernel_rfl) (by kernel_rfl) (by kernel_rfl) (fun _ _ _ h => h) (Or.inl ⟨by rfl, ?ybb1⟩) (by assumption) ?qbb1
  case ybb1 => (intro wz hSw; (try dsimp only at hSw); go_simp <;> with_reducible rfl)
  try simp only [Act.put, List.getElem_toArray, List.getElem_cons_zero, List.setIfInBounds_toArray, List.set_cons_zero, List.set_cons_succ]
  refine wpAnyH_take (i := 1) (v := ?_) rfl (by kernel_rfl) (by kernel_rfl) (by kernel_rfl) (fun _ _ _ h => h) (Or.inl ⟨by rfl, ?ybb2⟩) (by assumption) ?qbb2
  case ybb2 => (intro wz hSw; (try dsimp only at hSw); go_simp <;> with_reducible rfl)
  try simp only [Act.put, List.getElem_toArray, List.getElem_cons_zero, List.getElem_cons_succ, List.setIfInBounds_toArray, List.set_cons_zero, List.set_cons_succ]
  refine wpAnyH_take (i := 2) (v := ?_) rfl (by kernel_rfl) (by kernel_rfl) (by kernel_rfl) (fun _ _ _ h => h) (Or.inl ⟨by rfl, ?ybb3⟩) (by assumption) ?qbb3
  case ybb3 => (intro wz hSw; (try dsimp only at hSw); go_simp <;> with_reducible rfl)
  try simp only [Act.put, List.getElem_toArray, List.getElem_cons_zero, List.getElem_cons_succ, List.setIfInBounds_toArray, List.set_cons_zero, List.set_cons_succ]
  refine wpAnyH_ready (rs := [3]) (by kernel_rfl) (by simp) ?_
  refine AllReadyH.cons rfl (fun K hK => ?_) AllReadyH.nil
  go_simp
  refine (arlen_v (HA.out _ HB.out)).mono ?_
  rintro e w2 ⟨rfl, rfl⟩
  try go_wp2_with fail
  refine hK.out _ _ (HS.out _ (Below.refl _ _).drew) (fun hHeld4 => ?_)
  clear hK K
  try simp only [Act.put, List.getElem_toArray, List.getElem_cons_zero, List.getElem_cons_succ, List.setIfInBounds_toArray, List.set_cons_zero, List.set_cons_succ]
  refine wpAnyH_take (i := 4) (v := ?_) rfl (by kernel_rfl) (by kernel_rfl) (by kernel_rfl) (fun _ _ _ h => h) (Or.inl ⟨by rfl, ?ybb5⟩) (by assumption) ?qbb5
  case ybb5 => (intro wz hSw; (try dsimp only at hSw); go_simp <;> with_reducible rfl)
  try simp only [Act.put, List.getElem_toArray, List.getElem_cons_zero, List.getElem_cons_succ, List.setIfInBounds_toArray, List.set_cons_zero, List.set_cons_succ]
  refine wpAnyH_ready (rs := [5]) (by kernel_rfl) (by simp) ?_
  refine AllReadyH.cons rfl (fun K hK => ?_) AllReadyH.nil
  go_simp
  refine hK.out _ _ (HS.out _ ((Below.refl _ _).alloc (Nat.le_refl _) _).drew) (fun hHeld6 => ?_)
  clear hK K
  try simp only [Act.put, List.getElem_toArray, List.getElem_cons_zero, List.getElem_cons_succ, List.setIfInBounds_toArray, List.set_cons_zero, List.set_cons_succ]
  refine wpAnyH_take (i := 6) (v := ?_) rfl (by kernel_rfl) (by kernel_rfl) (by kernel_rfl) (fun _ _ _ h => h) (Or.inl ⟨by rfl, ?ybb7⟩) (by assumption) ?qbb7
  case ybb7 => (intro wz hSw; (try dsimp only at hSw); go_simp <;> with_reducible rfl)
  try simp only [Act.put, List.getElem_toArray, List.getElem_cons_zero, List.getElem_cons_succ, List.setIfInBounds_toArray, List.set_cons_zero, List.set_cons_succ]
  refine wpAnyH_done (by kernel_rfl) ?_ _
  go_wp2_with fail
  go_ret
  exact ⟨_, rfl, by simp, ⟨heap_alloc_at _ _ _ (by simp), HA.out _ (HB1.out.alloc HB1.out.size _).drew⟩, (HB1.out.alloc HB1.out.size _).drew⟩
set_option maxHeartbeats 4000000 in
theorem psdone_yes {B : Nat} {pv : Value} {o : Option Nat} {root had : Int} {room : Nat} {zs : List Cel} {w : World} (i : Int) (h : EDI w B pv o root had room zs 0) : Calls Try.prog 31 #[.pointer (some ⟨B, 0, none⟩), .int .i64 i] w (DoneY pv i 0 w) := by
  obtain ⟨a, rfl⟩ := h.2.ptr
  obtain ⟨hg, ⟨s0, s1⟩, ⟨s2, s3⟩, _⟩ := ecells h.1
  clear h
  go_enter Try.func31, Try.ntmps31
  go_wp2_with fail
  exact bodyPost_ret (v := .tuple #[.agg #[.pointer a, .int .i64 i], .int .i64 0]) (by simp [results, Try.results31, go_sem]) rfl ⟨rfl, by go_grown⟩
set_option maxRecDepth 100000 in
set_option maxHeartbeats 8000000 in
theorem psdone_no {B : Nat} {pv : Value} {o : Option Nat} {root : Int} {room n : Nat} {zs : List Cel} {w : World} (i : Int) (h : EDI w B pv o root (n : Int) room zs 2) (hn : n ≤ zs.length) : Calls Try.prog 31 #[.pointer (some ⟨B, 0, none⟩), .int .i64 i] w (DoneN pv o room (zs.take n) w) := by
  obtain ⟨a, rfl⟩ := h.2.ptr
  obtain ⟨hg, ⟨s0, s1⟩, ⟨s2, s3⟩, _⟩ := ecells h.1
  have hb1 : Below w.heap.size w (w.alloc (boxS (.pointer none) 0)) := (Below.refl _ _).alloc (Nat.le_refl _) _
  have HB : Hid (EDI (w.alloc (boxS (.pointer none) 0)) B (.pointer a) o root (n : Int) room zs 2 ∧ (w.alloc (boxS (.pointer none) 0)).heap[w.heap.size]? = some (boxS (.pointer none) 0) ∧ Below w.heap.size w (w.alloc (boxS (.pointer none) 0))) := Lib.hid ⟨h.below hb1, heap_alloc_at _ _ _ rfl, hb1⟩
  have HCut : Hid (Calls Try.prog 44 #[.pointer a, .int .i64 (n : Int)] (w.alloc (boxS (.pointer none) 0)).drew (ArStep (.pointer a) o room (zs.take n) (.bool true) (w.alloc (boxS (.pointer none) 0)).drew)) := Lib.hid (by
    have h := arcut_v (n : Int) _ (HB.out.1.below (Below.refl _ _).drew).2
    rwa [show cutA zs (n : Int) = (zs.take n, true) by unfold cutA; rw [if_pos (by omega), Int.toNat_natCast]] at h)
  have H0 := Lib.hid h
  clear h hb1 hn
  go_enter Try.func31, Try.ntmps31
  go_upto_region 2 with fail
  refine wp_region_held_drew (S := (fun X => X.cell? ⟨B, 0, none⟩ = some (.pointer a) ∧ X.cell? ⟨B, 2, none⟩ = some (.int .i64 (n : Int)))) (by kernel_rfl) ⟨(ecells (HB.out.1.below (Below.refl _ _).drew).1).2.1.1, (ecells (HB.out.1.below (Below.refl _ _).drew).1).2.2.1.1⟩ (fun hHeld0 => ?_)
  refine wpAnyH_take (i := 0) (v := ?_) rfl (by kernel_rfl) (by kernel_rfl) (by kernel_rfl) (fun _ _ _ h => h) (Or.inl ⟨by rfl, ?ydc1⟩) (by assumption) ?qdc1
  case ydc1 => (intro wz hSw; (try dsimp only at hSw); go_simp <;> with_reducible rfl)
  try simp only [Act.put, List.getElem_toArray, List.getElem_cons_zero, List.setIfInBounds_toArray, List.set_cons_zero, List.set_cons_succ]
  refine wpAnyH_take (i := 1) (v := ?_) rfl (by kernel_rfl) (by kernel_rfl) (by kernel_rfl) (fun _ _ _ h => h) (Or.inl ⟨by rfl, ?ydc2⟩) (by assumption) ?qdc2
  case ydc2 => (intro wz hSw; (try dsimp only at hSw); go_simp <;> with_reducible rfl)
  try simp only [Act.put, List.getElem_toArray, List.getElem_cons_zero, List.getElem_cons_succ, List.setIfInBounds_toArray, List.set_cons_zero, List.set_cons_succ]
  refine wpAnyH_take (i := 2) (v := ?_) rfl (by kernel_rfl) (by kernel_rfl) (by kernel_rfl) (fun _ _ _ h => h) (Or.inl ⟨by rfl, ?ydc3⟩) (by assumption) ?qdc3
  case ydc3 => (intro wz hSw; (try dsimp only at hSw); go_simp <;> with_reducible rfl)
  try simp only [Act.put, List.getElem_toArray, List.getElem_cons_zero, List.getElem_cons_succ, List.setIfInBounds_toArray, List.set_cons_zero, List.set_cons_succ]
  refine wpAnyH_take (i := 3) (v := ?_) rfl (by kernel_rfl) (by kernel_rfl) (by kernel_rfl) (fun _ _ _ h => h) (Or.inl ⟨by rfl, ?ydc4⟩) (by assumption) ?qdc4
  case ydc4 => (intro wz hSw; (try dsimp only at hSw); go_simp <;> with_reducible rfl)
  try simp only [Act.put, List.getElem_toArray, List.getElem_cons_zero, List.getElem_cons_succ, List.setIfInBounds_toArray, List.set_cons_zero, List.set_cons_succ]
  refine wpAnyH_take (i := 4) (v := ?_) rfl (by kernel_rfl) (by kernel_rfl) (by kernel_rfl) (fun _ _ _ h => h) (Or.inl ⟨by rfl, ?ydc5⟩) (by assumption) ?qdc5
  case ydc5 => (intro wz hSw; (try dsimp only at hSw); go_simp <;> with_reducible rfl)
  try simp only [Act.put, List.getElem_toArray, List.getElem_cons_zero, List.getElem_cons_succ, List.setIfInBounds_toArray, List.set_cons_zero, List.set_cons_succ]
  refine wpAnyH_take (i := 5) (v := ?_) rfl (by kernel_rfl) (by kernel_rfl) (by kernel_rfl) (fun _ _ _ h => h) (Or.inl ⟨by rfl, ?ydc6⟩) (by assumption) ?qdc6
  case ydc6 => (intro wz hSw; (try dsimp only at hSw); go_simp <;> with_reducible rfl)
  try simp only [Act.put, List.getElem_toArray, List.getElem_cons_zero, List.getElem_cons_succ, List.setIfInBounds_toArray, List.set_cons_zero, List.set_cons_succ]
  refine wpAnyH_take (i := 6) (v := ?_) rfl (by kernel_rfl) (by kernel_rfl) (by kernel_rfl) (fun _ _ _ h => h) (Or.inl ⟨by rfl, ?ydc7⟩) (by assumption) ?qdc7
  case ydc7 => (intro wz hSw; (try dsimp only at hSw); go_simp <;> with_reducible rfl)
  try simp only [Act.put, List.getElem_toArray, List.getElem_cons_zero, List.getElem_cons_succ, List.setIfInBounds_toArray, List.set_cons_zero, List.set_cons_succ]
  refine wpAnyH_take (i := 7) (v := ?_) rfl (by kernel_rfl) (by kernel_rfl) (by kernel_rfl) (fun _ _ _ h => h) (Or.inl ⟨by rfl, ?ydc8⟩) (by assumption) ?qdc8
  case ydc8 => (intro wz hSw; (try dsimp only at hSw); go_simp <;> with_reducible rfl)
  try simp only [Act.put, List.getElem_toArray, List.getElem_cons_zero, List.getElem_cons_succ, List.setIfInBounds_toArray, List.set_cons_zero, List.set_cons_succ]
  refine wpAnyH_take (i := 8) (v := ?_) rfl (by kernel_rfl) (by kernel_rfl) (by kernel_rfl) (fun _ _ _ h => h) (Or.inl ⟨by rfl, ?ydc9⟩) (by assumption) ?qdc9
  case ydc9 => (intro wz hSw; (try dsimp only at hSw); go_simp <;> with_reducible rfl)
  try simp only [Act.put, List.getElem_toArray, List.getElem_cons_zero, List.getElem_cons_succ, List.setIfInBounds_toArray, List.set_cons_zero, List.set_cons_succ]
  refine wpAnyH_ready (rs := [9]) (by kernel_rfl) (by simp) ?_
  refine AllReadyH.cons rfl (fun K hK => ?_) AllReadyH.nil
  go_simp
  refine HCut.out.mono ?_
  intro e w3 hs
  obtain ⟨rfl, o3, hA3, hM3, hF3⟩ := hs
  have hvB : ¬ VF (.pointer a) o B := HB.out.1.nv
  have HB3 := Lib.hid (show EDI w3 B (.pointer a) o3 root (n : Int) room (zs.take n) 2 from ⟨(hF3.block (heap_lt HB.out.1.1) hvB).trans HB.out.1.1, hA3⟩)
  have HX3 : Hid (w3.heap[w.heap.size]? = some (boxS (.pointer none) 0) ∧ Mv o o3 w ∧ Fr (VF (.pointer a) o) w w3 ∧ w.heap.size < w3.heap.size) := Lib.hid ⟨(hF3.block (heap_lt HB.out.2.1) (fun k => Nat.lt_irrefl _ (H0.out.2.lt _ k))).trans HB.out.2.1, hM3.lower HB.out.2.2.size, (Fr.of_below HB.out.2.2).trans hF3 (fun g _ k => k), Nat.lt_of_lt_of_le (heap_lt HB.out.2.1) hF3.size⟩
  have HNV : Hid (¬ VF (.pointer a) o3 w.heap.size) := Lib.hid fun k => Nat.lt_irrefl _ (H0.out.2.lt _ (hM3.vf _ (by simp) k))
  clear hA3 hM3 hF3 hvB
  try go_wp2_with fail
  refine hK.out _ _ (⟨(ecells HB3.out.1).2.1.1, (ecells HB3.out.1).2.2.1.1⟩) (fun hHeld10 => ?_)
  clear hK K
  try simp only [Act.put, List.getElem_toArray, List.getElem_cons_zero, List.getElem_cons_succ, List.setIfInBounds_toArray, List.set_cons_zero, List.set_cons_succ]
  refine wpAnyH_done (by kernel_rfl) ?_ _
  obtain ⟨hg3, ⟨r0, r1⟩, ⟨r2, r3⟩, _⟩ := ecells HB3.out.1
  go_upto_region 3 with fail
  refine wp_region_held_drew (S := (fun X => X.cell? ⟨B, 0, none⟩ = some (.pointer a) ∧ X.cell? ⟨B, 3, none⟩ = some (.int .i64 2))) (by kernel_rfl) ⟨(ecells (HB3.out.below (Below.refl _ _).drew).1).2.1.1, (ecells (HB3.out.below (Below.refl _ _).drew).1).2.2.1.2⟩ (fun hHeld0 => ?_)
  refine wpAnyH_take (i := 0) (v := ?_) rfl (by kernel_rfl) (by kernel_rfl) (by kernel_rfl) (fun _ _ _ h => h) (Or.inl ⟨by rfl, ?ydd1⟩) (by assumption) ?qdd1
  case ydd1 => (intro wz hSw; (try dsimp only at hSw); go_simp <;> with_reducible rfl)
  try simp only [Act.put, List.getElem_toArray, List.getElem_cons_zero, List.setIfInBounds_toArray, List.set_cons_zero, List.set_cons_succ]
  refine wpAnyH_take (i := 1) (v := ?_) rfl (by kernel_rfl) (by kernel_rfl) (by kernel_rfl) (fun _ _ _ h => h) (Or.inl ⟨by rfl, ?ydd2⟩) (by assumption) ?qdd2
  case ydd2 => (intro wz hSw; (try dsimp only at hSw); go_simp <;> with_reducible rfl)
  try simp only [Act.put, List.getElem_toArray, List.getElem_cons_zero, List.getElem_cons_succ, List.setIfInBounds_toArray, List.set_cons_zero, List.set_cons_succ]
  refine wpAnyH_take (i := 2) (v := ?_) rfl (by kernel_rfl) (by kernel_rfl) (by kernel_rfl) (fun _ _ _ h => h) (Or.inl ⟨by rfl, ?ydd3⟩) (by assumption) ?qdd3
  case ydd3 => (intro wz hSw; (try dsimp only at hSw); go_simp <;> with_reducible rfl)
  try simp only [Act.put, List.getElem_toArray, List.getElem_cons_zero, List.getElem_cons_succ, List.setIfInBounds_toArray, List.set_cons_zero, List.set_cons_succ]
  refine wpAnyH_take (i := 3) (v := ?_) rfl (by kernel_rfl) (by kernel_rfl) (by kernel_rfl) (fun _ _ _ h => h) (Or.inl ⟨by rfl, ?ydd4⟩) (by assumption) ?qdd4
  case ydd4 => (intro wz hSw; (try dsimp only at hSw); go_simp <;> with_reducible rfl)
  try simp only [Act.put, List.getElem_toArray, List.getElem_cons_zero, List.getElem_cons_succ, List.setIfInBounds_toArray, List.set_cons_zero, List.set_cons_succ]
  refine wpAnyH_take (i := 4) (v := ?_) rfl (by kernel_rfl) (by kernel_rfl) (by kernel_rfl) (fun _ _ _ h => h) (Or.inl ⟨by rfl, ?ydd5⟩) (by assumption) ?qdd5
  case ydd5 => (intro wz hSw; (try dsimp only at hSw); go_simp <;> with_reducible rfl)
  try simp only [Act.put, List.getElem_toArray, List.getElem_cons_zero, List.getElem_cons_succ, List.setIfInBounds_toArray, List.set_cons_zero, List.set_cons_succ]
  refine wpAnyH_take (i := 6) (v := ?_) rfl (by kernel_rfl) (by kernel_rfl) (by kernel_rfl) (fun _ _ _ h => h) (Or.inl ⟨by rfl, ?ydd6⟩) (by assumption) ?qdd6
  case ydd6 => (intro wz hSw; (try dsimp only at hSw); go_simp <;> with_reducible rfl)
  try simp only [Act.put, List.getElem_toArray, List.getElem_cons_zero, List.getElem_cons_succ, List.setIfInBounds_toArray, List.set_cons_zero, List.set_cons_succ]
  refine wpAnyH_take (i := 7) (v := ?_) rfl (by kernel_rfl) (by kernel_rfl) (by kernel_rfl) (fun _ _ _ h => h) (Or.inl ⟨by rfl, ?ydd7⟩) (by assumption) ?qdd7
  case ydd7 => (intro wz hSw; (try dsimp only at hSw); go_simp <;> with_reducible rfl)
  try simp only [Act.put, List.getElem_toArray, List.getElem_cons_zero, List.getElem_cons_succ, List.setIfInBounds_toArray, List.set_cons_zero, List.set_cons_succ]
  refine wpAnyH_take (i := 8) (v := ?_) rfl (by kernel_rfl) (by kernel_rfl) (by kernel_rfl) (fun _ _ _ h => h) (Or.inl ⟨by rfl, ?ydd8⟩) (by assumption) ?qdd8
  case ydd8 => (intro wz hSw; (try dsimp only at hSw); go_simp <;> with_reducible rfl)
  try simp only [Act.put, List.getElem_toArray, List.getElem_cons_zero, List.getElem_cons_succ, List.setIfInBounds_toArray, List.set_cons_zero, List.set_cons_succ]
  refine wpAnyH_take (i := 9) (v := ?_) rfl (by kernel_rfl) (by kernel_rfl) (by kernel_rfl) (fun _ _ _ h => h) (Or.inl ⟨by rfl, ?ydd9⟩) (by assumption) ?qdd9
  case ydd9 => (intro wz hSw; (try dsimp only at hSw); go_simp <;> with_reducible rfl)
  try simp only [Act.put, List.getElem_toArray, List.getElem_cons_zero, List.getElem_cons_succ, List.setIfInBounds_toArray, List.set_cons_zero, List.set_cons_succ]
  refine wpAnyH_ready (rs := [5]) (by kernel_rfl) (by simp) ?_
  refine AllReadyH.cons rfl (fun K hK => ?_) AllReadyH.nil
  go_simp
  refine (psnew (HB3.out.below (Below.refl _ _).drew).2).mono ?_
  rintro e w4 ⟨rfl, hb⟩
  have HB4 := Lib.hid (Below.trans (Below.refl w3.heap.size w3).drew (hb.mono (Nat.le_refl _)))
  clear hb
  try go_wp2_with fail
  refine hK.out _ _ (⟨(ecells (HB3.out.below HB4.out).1).2.1.1, (ecells (HB3.out.below HB4.out).1).2.2.1.2⟩) (fun hHeld10 => ?_)
  clear hK K
  try simp only [Act.put, List.getElem_toArray, List.getElem_cons_zero, List.getElem_cons_succ, List.setIfInBounds_toArray, List.set_cons_zero, List.set_cons_succ]
  refine wpAnyH_ready (rs := [10]) (by kernel_rfl) (by simp) ?_
  refine AllReadyH.cons rfl (fun K hK => ?_) AllReadyH.nil
  rw [if_pos (by rfl)]
  refine wp_store_seq (.tmp 4) (.tmp 26) rfl w.heap.size a none 0 0 rfl rfl ((HB4.out.block _ HX3.out.2.2.2).trans HX3.out.1) ?_
  intro w5 hst
  obtain ⟨_, m0, m1⟩ := cellsS hst.2.2.2.2.1
  have hF5 : Fr (fun k => k = w.heap.size) w4 w5 := ⟨hst.1, hst.2.1, hst.2.2.1, by rw [hst.2.2.2.1]; exact Nat.le_refl _, fun k _ hn => hst.2.2.2.2.2 k hn⟩
  have HB5 := Lib.hid (show EDI w5 B (.pointer a) o3 root (n : Int) room (zs.take n) 2 from ⟨(hF5.block (heap_lt (HB3.out.below HB4.out).1) (by omega)).trans (HB3.out.below HB4.out).1, (HB3.out.below HB4.out).2.fr hF5 (fun g hv e => HNV.out (e ▸ hv))⟩)
  have HE : Hid (DoneN (.pointer a) o room (zs.take n) w (.returned (.tuple #[.agg #[.pointer a, .int .i64 0], .int .i64 2])) w5) := Lib.hid ⟨rfl, o3, HB5.out.2, HX3.out.2.1, (HX3.out.2.2.1.trans (Fr.of_below (F := fun _ => False) HB4.out) (fun _ _ e => e.elim)).trans hF5 (fun g hg e => by omega)⟩
  clear hst hF5
  refine hK.out _ _ (⟨(ecells HB5.out.1).2.1.1, (ecells HB5.out.1).2.2.1.2⟩) (fun hHeld11 => ?_)
  clear hK K
  try simp only [Act.put, List.getElem_toArray, List.getElem_cons_zero, List.getElem_cons_succ]
  refine wpAnyH_take (i := 11) (v := ?_) rfl (by kernel_rfl) (by kernel_rfl) (by kernel_rfl) (fun _ _ _ h => h) (Or.inl ⟨by rfl, ?ydd12⟩) (by assumption) ?qdd12
  case ydd12 => (intro wz hSw; (try dsimp only at hSw); go_simp <;> with_reducible rfl)
  try simp only [Act.put, List.getElem_toArray, List.getElem_cons_zero, List.getElem_cons_succ, List.setIfInBounds_toArray, List.set_cons_zero, List.set_cons_succ]
  refine wpAnyH_done (by kernel_rfl) ?_ _
  go_wp2_with fail
  exact bodyPost_ret (v := .tuple #[.agg #[.pointer a, .int .i64 0], .int .i64 2]) (by simp [results, Try.results31, go_sem, m0, m1]) rfl HE.out
end Go.Proofs.Ytbgepeokadmemaa.F
