/-
  SeqPlays: judge's contract: no such place; no room; made. Not a statement of the seat.
-/
import Derived.Test.YtbgepeokadmemaaHead4
import Derived.Test.YtbgepeokadmemaaSsEnt
namespace Go.Proofs.Ytbgepeokadmemaa.Q
open Go.ChangeShapes Go.WideShapes Go.ChangeAt Go.RowKit Base F
theorem ps_nil (w : World) : PS w w (.pointer none) none 0 [] (.slice none 0 0) [] [] := ⟨⟨ArV.nil w, Below.refl _ _, fun g k => by rcases k with k | k <;> cases k⟩, QS.nil _ _ _, fun q hq => by cases hq⟩
theorem results_judge (tmps : Array Value) (w : World) (g : Nat) (x : Qn) (b : Bool) (hp : tmps.getD 14 undef = .pointer (some ⟨g, 0, none⟩)) (hb : tmps.getD 15 undef = .bool b) (hg : w.heap[g]? = some (boxQ x)) : (results Try.f24 tmps).run Try.prog w = .ok (.tuple #[.agg #[.pointer x.m, .int .i64 x.r, .pointer x.a, .slice x.p x.n x.c], .bool b]) w := by
  obtain ⟨_, x0, x1, x2, x3⟩ := cellsQ hg
  have hp' : tmps[14]?.getD undef = .pointer (some ⟨g, 0, none⟩) := by simpa using hp
  have hb' : tmps[15]?.getD undef = .bool b := by simpa using hb
  clear hp hb
  simp [results, Try.results24, go_sem, hp', hb', x0, x1, x2, x3]
set_option maxHeartbeats 8000000 in
set_option maxRecDepth 100000 in
theorem judge_no {a : Option Addr} {o : Option Nat} {room : Nat} {zs : List Cel} {w : World} {root : Int} {p : Option Addr} {n c : Nat} (l : Value) (en : Bool) (h : ArV w (.pointer a) o room zs) :
    Calls Try.prog 24 #[.agg #[.pointer a, .int .i64 root, .pointer a, .slice p n c], .agg #[.pointer a, .int .i64 0], .int .i64 1, .bool false, l, .int .i64 (zs.length : Int), .bool en] w fun e w' => e = .returned (.tuple #[.agg #[.pointer a, .int .i64 root, .pointer a, .slice p n c], .bool true]) ∧ Below w.heap.size w w' := by
  have P3 := Lib.hid ((((ps_nil w).addAt (boxQ ⟨a, root, a, p, n, c⟩) rfl).addAt (g := w.heap.size + 1) (boxS (.pointer a) 0) (by simp)).addAt (g := w.heap.size + 2) (boxQ Qn.zero) (by simp))
  have HAV := Lib.hid h
  have HNN : Hid ((∀ q ∈ (w.heap.size + 1, boxS (.pointer a) 0) :: (w.heap.size, boxQ ⟨a, root, a, p, n, c⟩) :: [], q.1 ≠ w.heap.size + 2) ∧ w.heap.size ≤ w.heap.size + 2) := Lib.hid ⟨fun q hq e => by
    simp only [List.mem_cons, List.not_mem_nil, or_false] at hq
    rcases hq with rfl | rfl <;> (simp only at e; omega), by omega⟩
  clear h
  go_enter Try.func24, Try.ntmps24
  go_upto_region 2 with fail
  obtain ⟨wy, hwy⟩ : ∃ wy, wy = ((w.alloc (boxQ ⟨a, root, a, p, n, c⟩)).alloc (boxS (.pointer a) 0)).alloc (boxQ Qn.zero) := ⟨_, rfl⟩
  rw [← hwy] at P3
  unfold boxQ boxS Qn.zero at hwy
  rw [← hwy]
  clear hwy
  have HX : Hid (∀ X, Below wy.heap.size wy X → PS w X (.pointer none) none 0 [] (.slice none 0 0) [] ((w.heap.size + 2, boxQ Qn.zero) :: (w.heap.size + 1, boxS (.pointer a) 0) :: (w.heap.size, boxQ ⟨a, root, a, p, n, c⟩) :: []) ∧ ArV X (.pointer a) o room zs) := Lib.hid fun X hX => by
    have h := P3.out.below hX
    exact ⟨h, HAV.out.below (h.1.2.1)⟩
  have HS : Hid (∀ X, Below wy.heap.size wy X → (fun X => (X.cell? ⟨w.heap.size, 0, none⟩ = some (.pointer a) ∧ X.cell? ⟨w.heap.size, 1, none⟩ = some (.int .i64 root) ∧ X.cell? ⟨w.heap.size, 2, none⟩ = some (.pointer a) ∧ X.cell? ⟨w.heap.size, 3, none⟩ = some (.slice p n c)) ∧ (X.cell? ⟨w.heap.size + 1, 0, none⟩ = some (.pointer a) ∧ X.cell? ⟨w.heap.size + 1, 1, none⟩ = some (.int .i64 0))) X) := Lib.hid fun X hX => ⟨(cellsQ ((HX.out X hX).1.2.2 (w.heap.size, boxQ ⟨a, root, a, p, n, c⟩) (by simp)).1).2, (cellsS ((HX.out X hX).1.2.2 (w.heap.size + 1, boxS (.pointer a) 0) (by simp)).1).2⟩
  have BB0 : Hid (Below wy.heap.size wy wy.drew) := Lib.hid (Below.refl _ _).drew
  have HLe : Hid (∀ X, Below wy.heap.size wy X → Calls Try.prog 20 #[.pointer a] X (IntB (zs.length : Int) X)) := Lib.hid fun X hX => (arlen_v (HX.out X hX).2).mono fun _ _ ⟨e, h2⟩ => ⟨e, by rw [← h2]; exact Below.refl _ _⟩
  have HL0 : Hid (∀ X, Below wy.heap.size wy X → Calls Try.prog 18 #[.agg #[.pointer a, .int .i64 0]] X (IntB 0 X)) := Lib.hid fun X hX => pslen (HX.out X hX).2 (t := .nil) (root := 0) rfl
  refine wp_region_held_drew (S := (fun X => (X.cell? ⟨w.heap.size, 0, none⟩ = some (.pointer a) ∧ X.cell? ⟨w.heap.size, 1, none⟩ = some (.int .i64 root) ∧ X.cell? ⟨w.heap.size, 2, none⟩ = some (.pointer a) ∧ X.cell? ⟨w.heap.size, 3, none⟩ = some (.slice p n c)) ∧ (X.cell? ⟨w.heap.size + 1, 0, none⟩ = some (.pointer a) ∧ X.cell? ⟨w.heap.size + 1, 1, none⟩ = some (.int .i64 0)))) (by as_aux_lemma => kernel_rfl) (HS.out _ BB0.out) (fun hHeld0 => ?_)
  refine wpAnyH_take (i := 0) (v := ?_) rfl (by as_aux_lemma => kernel_rfl) (by as_aux_lemma => kernel_rfl) (by as_aux_lemma => kernel_rfl) (fun _ _ _ h => h) (Or.inl ⟨by rfl, ?yjn1⟩) (by assumption) ?qjn1
  case yjn1 => (intro wz hSw; (try dsimp only at hSw); go_simp <;> with_reducible rfl)
  try simp only [Act.put, List.getElem_toArray, List.getElem_cons_zero, List.setIfInBounds_toArray, List.set_cons_zero, List.set_cons_succ]
  refine wpAnyH_take (i := 1) (v := ?_) rfl (by as_aux_lemma => kernel_rfl) (by as_aux_lemma => kernel_rfl) (by as_aux_lemma => kernel_rfl) (fun _ _ _ h => h) (Or.inl ⟨by rfl, ?yjn2⟩) (by assumption) ?qjn2
  case yjn2 => (intro wz hSw; (try dsimp only at hSw); go_simp <;> with_reducible rfl)
  try simp only [Act.put, List.getElem_toArray, List.getElem_cons_zero, List.getElem_cons_succ, List.setIfInBounds_toArray, List.set_cons_zero, List.set_cons_succ]
  refine wpAnyH_take (i := 2) (v := ?_) rfl (by as_aux_lemma => kernel_rfl) (by as_aux_lemma => kernel_rfl) (by as_aux_lemma => kernel_rfl) (fun _ _ _ h => h) (Or.inl ⟨by rfl, ?yjn3⟩) (by assumption) ?qjn3
  case yjn3 => (intro wz hSw; (try dsimp only at hSw); go_simp <;> with_reducible rfl)
  try simp only [Act.put, List.getElem_toArray, List.getElem_cons_zero, List.getElem_cons_succ, List.setIfInBounds_toArray, List.set_cons_zero, List.set_cons_succ]
  refine wpAnyH_take (i := 3) (v := ?_) rfl (by as_aux_lemma => kernel_rfl) (by as_aux_lemma => kernel_rfl) (by as_aux_lemma => kernel_rfl) (fun _ _ _ h => h) (Or.inl ⟨by rfl, ?yjn4⟩) (by assumption) ?qjn4
  case yjn4 => (intro wz hSw; (try dsimp only at hSw); go_simp <;> with_reducible rfl)
  try simp only [Act.put, List.getElem_toArray, List.getElem_cons_zero, List.getElem_cons_succ, List.setIfInBounds_toArray, List.set_cons_zero, List.set_cons_succ]
  refine wpAnyH_take (i := 4) (v := ?_) rfl (by as_aux_lemma => kernel_rfl) (by as_aux_lemma => kernel_rfl) (by as_aux_lemma => kernel_rfl) (fun _ _ _ h => h) (Or.inl ⟨by rfl, ?yjn5⟩) (by assumption) ?qjn5
  case yjn5 => (intro wz hSw; (try dsimp only at hSw); go_simp <;> with_reducible rfl)
  try simp only [Act.put, List.getElem_toArray, List.getElem_cons_zero, List.getElem_cons_succ, List.setIfInBounds_toArray, List.set_cons_zero, List.set_cons_succ]
  refine wpAnyH_take (i := 5) (v := ?_) rfl (by as_aux_lemma => kernel_rfl) (by as_aux_lemma => kernel_rfl) (by as_aux_lemma => kernel_rfl) (fun _ _ _ h => h) (Or.inl ⟨by rfl, ?yjn6⟩) (by assumption) ?qjn6
  case yjn6 => (intro wz hSw; (try dsimp only at hSw); go_simp <;> with_reducible rfl)
  try simp only [Act.put, List.getElem_toArray, List.getElem_cons_zero, List.getElem_cons_succ, List.setIfInBounds_toArray, List.set_cons_zero, List.set_cons_succ]
  refine wpAnyH_take (i := 7) (v := ?_) rfl (by as_aux_lemma => kernel_rfl) (by as_aux_lemma => kernel_rfl) (by as_aux_lemma => kernel_rfl) (fun _ _ _ h => h) (Or.inl ⟨by rfl, ?yjn7⟩) (by assumption) ?qjn7
  case yjn7 => (intro wz hSw; (try dsimp only at hSw); go_simp <;> with_reducible rfl)
  try simp only [Act.put, List.getElem_toArray, List.getElem_cons_zero, List.getElem_cons_succ, List.setIfInBounds_toArray, List.set_cons_zero, List.set_cons_succ]
  refine wpAnyH_ready (rs := [6]) (by as_aux_lemma => kernel_rfl) (by simp) ?_
  refine AllReadyH.cons rfl (fun K hK => ?_) AllReadyH.nil
  first | rw [if_pos (by rfl)] | skip
  go_simp
  refine (HLe.out _ BB0.out).mono ?_
  rintro e u8 ⟨rfl, hb⟩
  have CB8 := Lib.hid (Below.trans (show Below wy.heap.size wy _ from BB0.out) (hb.mono (show wy.heap.size ≤ _ from Below.size BB0.out)))
  clear hb
  refine hK.out _ _ ((HS.out _ CB8.out)) (fun hHeld8 => ?_)
  clear hK K
  try simp only [Act.put, List.getElem_toArray, List.getElem_cons_zero, List.getElem_cons_succ, List.setIfInBounds_toArray, List.set_cons_zero, List.set_cons_succ]
  refine wpAnyH_take (i := 8) (v := ?_) rfl (by as_aux_lemma => kernel_rfl) (by as_aux_lemma => kernel_rfl) (by as_aux_lemma => kernel_rfl) (fun _ _ _ h => h) (Or.inl ⟨by rfl, ?yjn9⟩) (by assumption) ?qjn9
  case yjn9 => (intro wz hSw; (try dsimp only at hSw); go_simp <;> with_reducible rfl)
  try simp only [Act.put, List.getElem_toArray, List.getElem_cons_zero, List.getElem_cons_succ, List.setIfInBounds_toArray, List.set_cons_zero, List.set_cons_succ]
  refine wpAnyH_take (i := 9) (v := ?_) rfl (by as_aux_lemma => kernel_rfl) (by as_aux_lemma => kernel_rfl) (by as_aux_lemma => kernel_rfl) (fun _ _ _ h => h) (Or.inl ⟨by rfl, ?yjn10⟩) (by assumption) ?qjn10
  case yjn10 => (intro wz hSw; (try dsimp only at hSw); go_simp <;> with_reducible rfl)
  try simp only [Act.put, List.getElem_toArray, List.getElem_cons_zero, List.getElem_cons_succ, List.setIfInBounds_toArray, List.set_cons_zero, List.set_cons_succ]
  refine wpAnyH_take (i := 10) (v := ?_) rfl (by as_aux_lemma => kernel_rfl) (by as_aux_lemma => kernel_rfl) (by as_aux_lemma => kernel_rfl) (fun _ _ _ h => h) (Or.inl ⟨by rfl, ?yjn11⟩) (by assumption) ?qjn11
  case yjn11 => (intro wz hSw; (try dsimp only at hSw); go_simp <;> with_reducible rfl)
  try simp only [Act.put, List.getElem_toArray, List.getElem_cons_zero, List.getElem_cons_succ, List.setIfInBounds_toArray, List.set_cons_zero, List.set_cons_succ]
  refine wpAnyH_take (i := 11) (v := ?_) rfl (by as_aux_lemma => kernel_rfl) (by as_aux_lemma => kernel_rfl) (by as_aux_lemma => kernel_rfl) (fun _ _ _ h => h) (Or.inl ⟨by rfl, ?yjn12⟩) (by assumption) ?qjn12
  case yjn12 => (intro wz hSw; (try dsimp only at hSw); go_simp <;> with_reducible rfl)
  try simp only [Act.put, List.getElem_toArray, List.getElem_cons_zero, List.getElem_cons_succ, List.setIfInBounds_toArray, List.set_cons_zero, List.set_cons_succ]
  refine wpAnyH_ready (rs := [12]) (by as_aux_lemma => kernel_rfl) (by simp) ?_
  refine AllReadyH.cons rfl (fun K hK => ?_) AllReadyH.nil
  first | rw [if_pos (by rfl)] | skip
  go_simp
  refine (HL0.out _ CB8.out).mono ?_
  rintro e u13 ⟨rfl, hb⟩
  have CB13 := Lib.hid (Below.trans (show Below wy.heap.size wy _ from CB8.out) (hb.mono (show wy.heap.size ≤ _ from Below.size CB8.out)))
  clear hb
  refine hK.out _ _ ((HS.out _ CB13.out)) (fun hHeld13 => ?_)
  clear hK K
  try simp only [Act.put, List.getElem_toArray, List.getElem_cons_zero, List.getElem_cons_succ, List.setIfInBounds_toArray, List.set_cons_zero, List.set_cons_succ]
  refine wpAnyH_take (i := 13) (v := ?_) rfl (by as_aux_lemma => kernel_rfl) (by as_aux_lemma => kernel_rfl) (by as_aux_lemma => kernel_rfl) (fun _ _ _ h => h) (Or.inl ⟨by rfl, ?yjn14⟩) (by assumption) ?qjn14
  case yjn14 => (intro wz hSw; (try dsimp only at hSw); go_simp <;> with_reducible rfl)
  try simp only [Act.put, List.getElem_toArray, List.getElem_cons_zero, List.getElem_cons_succ, List.setIfInBounds_toArray, List.set_cons_zero, List.set_cons_succ]
  refine wpAnyH_take (i := 14) (v := ?_) rfl (by as_aux_lemma => kernel_rfl) (by as_aux_lemma => kernel_rfl) (by as_aux_lemma => kernel_rfl) (fun _ _ _ h => h) (Or.inl ⟨by rfl, ?yjn15⟩) (by assumption) ?qjn15
  case yjn15 => (intro wz hSw; (try dsimp only at hSw); go_simp <;> with_reducible rfl)
  try simp only [Act.put, List.getElem_toArray, List.getElem_cons_zero, List.getElem_cons_succ, List.setIfInBounds_toArray, List.set_cons_zero, List.set_cons_succ]
  refine wpAnyH_ready (rs := [15]) (by as_aux_lemma => kernel_rfl) (by simp) ?_
  refine AllReadyH.cons rfl (fun K hK => ?_) AllReadyH.nil
  rw [if_pos (by rfl)]
  refine wp_store_one (.tmp 14) (.tmp 18) rfl (w.heap.size + 2) ⟨a, root, a, p, n, c⟩ Qn.zero rfl rfl ((HX.out _ CB13.out).1.2.2 (w.heap.size + 2, boxQ Qn.zero) (by simp)).1 ?_
  intro v16 hst
  have HF := Lib.hid ((HX.out _ CB13.out).1.store HNN.out.1 HNN.out.2 hst)
  clear hst
  refine hK.out _ _ (⟨(cellsQ (HF.out.2.2 (w.heap.size, boxQ ⟨a, root, a, p, n, c⟩) (by simp)).1).2, (cellsS (HF.out.2.2 (w.heap.size + 1, boxS (.pointer a) 0) (by simp)).1).2⟩) (fun hHeld16 => ?_)
  clear hK K
  try simp only [Act.put, List.getElem_toArray, List.getElem_cons_zero, List.getElem_cons_succ]
  refine wpAnyH_take (i := 16) (v := ?_) rfl (by as_aux_lemma => kernel_rfl) (by as_aux_lemma => kernel_rfl) (by as_aux_lemma => kernel_rfl) (fun _ _ _ h => h) (Or.inl ⟨by rfl, ?yjn17⟩) (by assumption) ?qjn17
  case yjn17 => (intro wz hSw; (try dsimp only at hSw); go_simp <;> with_reducible rfl)
  try simp only [Act.put, List.getElem_toArray, List.getElem_cons_zero, List.getElem_cons_succ, List.setIfInBounds_toArray, List.set_cons_zero, List.set_cons_succ]
  refine wpAnyH_done (by as_aux_lemma => kernel_rfl) ?_ _
  go_wp2_with fail
  exact bodyPost_ret (results_judge _ _ (w.heap.size + 2) ⟨a, root, a, p, n, c⟩ true rfl rfl (HF.out.2.2 (w.heap.size + 2, boxQ ⟨a, root, a, p, n, c⟩) (by simp)).1) rfl ⟨rfl, HF.out.1.2.1⟩
set_option maxHeartbeats 8000000 in
set_option maxRecDepth 100000 in
theorem judge_full {a : Option Addr} {o : Option Nat} {room : Nat} {zs : List Cel} {w : World} {root : Int} {p : Option Addr} {n c : Nat} (l : Value) (h : ArV w (.pointer a) o room zs) :
    Calls Try.prog 24 #[.agg #[.pointer a, .int .i64 root, .pointer a, .slice p n c], .agg #[.pointer a, .int .i64 0], .int .i64 2, .bool true, l, .int .i64 (zs.length : Int), .bool false] w fun e w' => e = .returned (.tuple #[.agg #[.pointer a, .int .i64 root, .pointer a, .slice p n c], .bool true]) ∧ Below w.heap.size w w' := by
  have P3 := Lib.hid ((((ps_nil w).addAt (boxQ ⟨a, root, a, p, n, c⟩) rfl).addAt (g := w.heap.size + 1) (boxS (.pointer a) 0) (by simp)).addAt (g := w.heap.size + 2) (boxQ Qn.zero) (by simp))
  have HAV := Lib.hid h
  have HNN : Hid ((∀ q ∈ (w.heap.size + 1, boxS (.pointer a) 0) :: (w.heap.size, boxQ ⟨a, root, a, p, n, c⟩) :: [], q.1 ≠ w.heap.size + 2) ∧ w.heap.size ≤ w.heap.size + 2) := Lib.hid ⟨fun q hq e => by
    simp only [List.mem_cons, List.not_mem_nil, or_false] at hq
    rcases hq with rfl | rfl <;> (simp only at e; omega), by omega⟩
  clear h
  go_enter Try.func24, Try.ntmps24
  go_upto_region 4 with fail
  obtain ⟨wy, hwy⟩ : ∃ wy, wy = ((w.alloc (boxQ ⟨a, root, a, p, n, c⟩)).alloc (boxS (.pointer a) 0)).alloc (boxQ Qn.zero) := ⟨_, rfl⟩
  rw [← hwy] at P3
  unfold boxQ boxS Qn.zero at hwy
  rw [← hwy]
  clear hwy
  have HX : Hid (∀ X, Below wy.heap.size wy X → PS w X (.pointer none) none 0 [] (.slice none 0 0) [] ((w.heap.size + 2, boxQ Qn.zero) :: (w.heap.size + 1, boxS (.pointer a) 0) :: (w.heap.size, boxQ ⟨a, root, a, p, n, c⟩) :: []) ∧ ArV X (.pointer a) o room zs) := Lib.hid fun X hX => by
    have h := P3.out.below hX
    exact ⟨h, HAV.out.below (h.1.2.1)⟩
  have HS : Hid (∀ X, Below wy.heap.size wy X → (fun X => (X.cell? ⟨w.heap.size, 0, none⟩ = some (.pointer a) ∧ X.cell? ⟨w.heap.size, 1, none⟩ = some (.int .i64 root) ∧ X.cell? ⟨w.heap.size, 2, none⟩ = some (.pointer a) ∧ X.cell? ⟨w.heap.size, 3, none⟩ = some (.slice p n c)) ∧ (X.cell? ⟨w.heap.size + 1, 0, none⟩ = some (.pointer a) ∧ X.cell? ⟨w.heap.size + 1, 1, none⟩ = some (.int .i64 0))) X) := Lib.hid fun X hX => ⟨(cellsQ ((HX.out X hX).1.2.2 (w.heap.size, boxQ ⟨a, root, a, p, n, c⟩) (by simp)).1).2, (cellsS ((HX.out X hX).1.2.2 (w.heap.size + 1, boxS (.pointer a) 0) (by simp)).1).2⟩
  have BB0 : Hid (Below wy.heap.size wy wy.drew) := Lib.hid (Below.refl _ _).drew
  have HLe : Hid (∀ X, Below wy.heap.size wy X → Calls Try.prog 20 #[.pointer a] X (IntB (zs.length : Int) X)) := Lib.hid fun X hX => (arlen_v (HX.out X hX).2).mono fun _ _ ⟨e, h2⟩ => ⟨e, by rw [← h2]; exact Below.refl _ _⟩
  have HL0 : Hid (∀ X, Below wy.heap.size wy X → Calls Try.prog 18 #[.agg #[.pointer a, .int .i64 0]] X (IntB 0 X)) := Lib.hid fun X hX => pslen (HX.out X hX).2 (t := .nil) (root := 0) rfl
  refine wp_region_held_drew (S := (fun X => (X.cell? ⟨w.heap.size, 0, none⟩ = some (.pointer a) ∧ X.cell? ⟨w.heap.size, 1, none⟩ = some (.int .i64 root) ∧ X.cell? ⟨w.heap.size, 2, none⟩ = some (.pointer a) ∧ X.cell? ⟨w.heap.size, 3, none⟩ = some (.slice p n c)) ∧ (X.cell? ⟨w.heap.size + 1, 0, none⟩ = some (.pointer a) ∧ X.cell? ⟨w.heap.size + 1, 1, none⟩ = some (.int .i64 0)))) (by as_aux_lemma => kernel_rfl) (HS.out _ BB0.out) (fun hHeld0 => ?_)
  refine wpAnyH_take (i := 0) (v := ?_) rfl (by as_aux_lemma => kernel_rfl) (by as_aux_lemma => kernel_rfl) (by as_aux_lemma => kernel_rfl) (fun _ _ _ h => h) (Or.inl ⟨by rfl, ?yjf1⟩) (by assumption) ?qjf1
  case yjf1 => (intro wz hSw; (try dsimp only at hSw); go_simp <;> with_reducible rfl)
  try simp only [Act.put, List.getElem_toArray, List.getElem_cons_zero, List.setIfInBounds_toArray, List.set_cons_zero, List.set_cons_succ]
  refine wpAnyH_take (i := 1) (v := ?_) rfl (by as_aux_lemma => kernel_rfl) (by as_aux_lemma => kernel_rfl) (by as_aux_lemma => kernel_rfl) (fun _ _ _ h => h) (Or.inl ⟨by rfl, ?yjf2⟩) (by assumption) ?qjf2
  case yjf2 => (intro wz hSw; (try dsimp only at hSw); go_simp <;> with_reducible rfl)
  try simp only [Act.put, List.getElem_toArray, List.getElem_cons_zero, List.getElem_cons_succ, List.setIfInBounds_toArray, List.set_cons_zero, List.set_cons_succ]
  refine wpAnyH_take (i := 2) (v := ?_) rfl (by as_aux_lemma => kernel_rfl) (by as_aux_lemma => kernel_rfl) (by as_aux_lemma => kernel_rfl) (fun _ _ _ h => h) (Or.inl ⟨by rfl, ?yjf3⟩) (by assumption) ?qjf3
  case yjf3 => (intro wz hSw; (try dsimp only at hSw); go_simp <;> with_reducible rfl)
  try simp only [Act.put, List.getElem_toArray, List.getElem_cons_zero, List.getElem_cons_succ, List.setIfInBounds_toArray, List.set_cons_zero, List.set_cons_succ]
  refine wpAnyH_take (i := 3) (v := ?_) rfl (by as_aux_lemma => kernel_rfl) (by as_aux_lemma => kernel_rfl) (by as_aux_lemma => kernel_rfl) (fun _ _ _ h => h) (Or.inl ⟨by rfl, ?yjf4⟩) (by assumption) ?qjf4
  case yjf4 => (intro wz hSw; (try dsimp only at hSw); go_simp <;> with_reducible rfl)
  try simp only [Act.put, List.getElem_toArray, List.getElem_cons_zero, List.getElem_cons_succ, List.setIfInBounds_toArray, List.set_cons_zero, List.set_cons_succ]
  refine wpAnyH_take (i := 4) (v := ?_) rfl (by as_aux_lemma => kernel_rfl) (by as_aux_lemma => kernel_rfl) (by as_aux_lemma => kernel_rfl) (fun _ _ _ h => h) (Or.inl ⟨by rfl, ?yjf5⟩) (by assumption) ?qjf5
  case yjf5 => (intro wz hSw; (try dsimp only at hSw); go_simp <;> with_reducible rfl)
  try simp only [Act.put, List.getElem_toArray, List.getElem_cons_zero, List.getElem_cons_succ, List.setIfInBounds_toArray, List.set_cons_zero, List.set_cons_succ]
  refine wpAnyH_take (i := 5) (v := ?_) rfl (by as_aux_lemma => kernel_rfl) (by as_aux_lemma => kernel_rfl) (by as_aux_lemma => kernel_rfl) (fun _ _ _ h => h) (Or.inl ⟨by rfl, ?yjf6⟩) (by assumption) ?qjf6
  case yjf6 => (intro wz hSw; (try dsimp only at hSw); go_simp <;> with_reducible rfl)
  try simp only [Act.put, List.getElem_toArray, List.getElem_cons_zero, List.getElem_cons_succ, List.setIfInBounds_toArray, List.set_cons_zero, List.set_cons_succ]
  refine wpAnyH_take (i := 7) (v := ?_) rfl (by as_aux_lemma => kernel_rfl) (by as_aux_lemma => kernel_rfl) (by as_aux_lemma => kernel_rfl) (fun _ _ _ h => h) (Or.inl ⟨by rfl, ?yjf7⟩) (by assumption) ?qjf7
  case yjf7 => (intro wz hSw; (try dsimp only at hSw); go_simp <;> with_reducible rfl)
  try simp only [Act.put, List.getElem_toArray, List.getElem_cons_zero, List.getElem_cons_succ, List.setIfInBounds_toArray, List.set_cons_zero, List.set_cons_succ]
  refine wpAnyH_ready (rs := [6]) (by as_aux_lemma => kernel_rfl) (by simp) ?_
  refine AllReadyH.cons rfl (fun K hK => ?_) AllReadyH.nil
  first | rw [if_pos (by rfl)] | skip
  go_simp
  refine (HLe.out _ BB0.out).mono ?_
  rintro e u8 ⟨rfl, hb⟩
  have CB8 := Lib.hid (Below.trans (show Below wy.heap.size wy _ from BB0.out) (hb.mono (show wy.heap.size ≤ _ from Below.size BB0.out)))
  clear hb
  refine hK.out _ _ ((HS.out _ CB8.out)) (fun hHeld8 => ?_)
  clear hK K
  try simp only [Act.put, List.getElem_toArray, List.getElem_cons_zero, List.getElem_cons_succ, List.setIfInBounds_toArray, List.set_cons_zero, List.set_cons_succ]
  refine wpAnyH_take (i := 8) (v := ?_) rfl (by as_aux_lemma => kernel_rfl) (by as_aux_lemma => kernel_rfl) (by as_aux_lemma => kernel_rfl) (fun _ _ _ h => h) (Or.inl ⟨by rfl, ?yjf9⟩) (by assumption) ?qjf9
  case yjf9 => (intro wz hSw; (try dsimp only at hSw); go_simp <;> with_reducible rfl)
  try simp only [Act.put, List.getElem_toArray, List.getElem_cons_zero, List.getElem_cons_succ, List.setIfInBounds_toArray, List.set_cons_zero, List.set_cons_succ]
  refine wpAnyH_take (i := 9) (v := ?_) rfl (by as_aux_lemma => kernel_rfl) (by as_aux_lemma => kernel_rfl) (by as_aux_lemma => kernel_rfl) (fun _ _ _ h => h) (Or.inl ⟨by rfl, ?yjf10⟩) (by assumption) ?qjf10
  case yjf10 => (intro wz hSw; (try dsimp only at hSw); go_simp <;> with_reducible rfl)
  try simp only [Act.put, List.getElem_toArray, List.getElem_cons_zero, List.getElem_cons_succ, List.setIfInBounds_toArray, List.set_cons_zero, List.set_cons_succ]
  refine wpAnyH_take (i := 10) (v := ?_) rfl (by as_aux_lemma => kernel_rfl) (by as_aux_lemma => kernel_rfl) (by as_aux_lemma => kernel_rfl) (fun _ _ _ h => h) (Or.inl ⟨by rfl, ?yjf11⟩) (by assumption) ?qjf11
  case yjf11 => (intro wz hSw; (try dsimp only at hSw); go_simp <;> with_reducible rfl)
  try simp only [Act.put, List.getElem_toArray, List.getElem_cons_zero, List.getElem_cons_succ, List.setIfInBounds_toArray, List.set_cons_zero, List.set_cons_succ]
  refine wpAnyH_take (i := 11) (v := ?_) rfl (by as_aux_lemma => kernel_rfl) (by as_aux_lemma => kernel_rfl) (by as_aux_lemma => kernel_rfl) (fun _ _ _ h => h) (Or.inl ⟨by rfl, ?yjf12⟩) (by assumption) ?qjf12
  case yjf12 => (intro wz hSw; (try dsimp only at hSw); go_simp <;> with_reducible rfl)
  try simp only [Act.put, List.getElem_toArray, List.getElem_cons_zero, List.getElem_cons_succ, List.setIfInBounds_toArray, List.set_cons_zero, List.set_cons_succ]
  refine wpAnyH_ready (rs := [12]) (by as_aux_lemma => kernel_rfl) (by simp) ?_
  refine AllReadyH.cons rfl (fun K hK => ?_) AllReadyH.nil
  first | rw [if_pos (by rfl)] | skip
  go_simp
  refine (HL0.out _ CB8.out).mono ?_
  rintro e u13 ⟨rfl, hb⟩
  have CB13 := Lib.hid (Below.trans (show Below wy.heap.size wy _ from CB8.out) (hb.mono (show wy.heap.size ≤ _ from Below.size CB8.out)))
  clear hb
  refine hK.out _ _ ((HS.out _ CB13.out)) (fun hHeld13 => ?_)
  clear hK K
  try simp only [Act.put, List.getElem_toArray, List.getElem_cons_zero, List.getElem_cons_succ, List.setIfInBounds_toArray, List.set_cons_zero, List.set_cons_succ]
  refine wpAnyH_take (i := 13) (v := ?_) rfl (by as_aux_lemma => kernel_rfl) (by as_aux_lemma => kernel_rfl) (by as_aux_lemma => kernel_rfl) (fun _ _ _ h => h) (Or.inl ⟨by rfl, ?yjf14⟩) (by assumption) ?qjf14
  case yjf14 => (intro wz hSw; (try dsimp only at hSw); go_simp <;> with_reducible rfl)
  try simp only [Act.put, List.getElem_toArray, List.getElem_cons_zero, List.getElem_cons_succ, List.setIfInBounds_toArray, List.set_cons_zero, List.set_cons_succ]
  refine wpAnyH_take (i := 14) (v := ?_) rfl (by as_aux_lemma => kernel_rfl) (by as_aux_lemma => kernel_rfl) (by as_aux_lemma => kernel_rfl) (fun _ _ _ h => h) (Or.inl ⟨by rfl, ?yjf15⟩) (by assumption) ?qjf15
  case yjf15 => (intro wz hSw; (try dsimp only at hSw); go_simp <;> with_reducible rfl)
  try simp only [Act.put, List.getElem_toArray, List.getElem_cons_zero, List.getElem_cons_succ, List.setIfInBounds_toArray, List.set_cons_zero, List.set_cons_succ]
  refine wpAnyH_ready (rs := [15]) (by as_aux_lemma => kernel_rfl) (by simp) ?_
  refine AllReadyH.cons rfl (fun K hK => ?_) AllReadyH.nil
  rw [if_pos (by rfl)]
  refine wp_store_one (.tmp 14) (.tmp 35) rfl (w.heap.size + 2) ⟨a, root, a, p, n, c⟩ Qn.zero rfl rfl ((HX.out _ CB13.out).1.2.2 (w.heap.size + 2, boxQ Qn.zero) (by simp)).1 ?_
  intro v16 hst
  have HF := Lib.hid ((HX.out _ CB13.out).1.store HNN.out.1 HNN.out.2 hst)
  clear hst
  refine hK.out _ _ (⟨(cellsQ (HF.out.2.2 (w.heap.size, boxQ ⟨a, root, a, p, n, c⟩) (by simp)).1).2, (cellsS (HF.out.2.2 (w.heap.size + 1, boxS (.pointer a) 0) (by simp)).1).2⟩) (fun hHeld16 => ?_)
  clear hK K
  try simp only [Act.put, List.getElem_toArray, List.getElem_cons_zero, List.getElem_cons_succ]
  refine wpAnyH_take (i := 16) (v := ?_) rfl (by as_aux_lemma => kernel_rfl) (by as_aux_lemma => kernel_rfl) (by as_aux_lemma => kernel_rfl) (fun _ _ _ h => h) (Or.inl ⟨by rfl, ?yjf17⟩) (by assumption) ?qjf17
  case yjf17 => (intro wz hSw; (try dsimp only at hSw); go_simp <;> with_reducible rfl)
  try simp only [Act.put, List.getElem_toArray, List.getElem_cons_zero, List.getElem_cons_succ, List.setIfInBounds_toArray, List.set_cons_zero, List.set_cons_succ]
  refine wpAnyH_done (by as_aux_lemma => kernel_rfl) ?_ _
  go_wp2_with fail
  exact bodyPost_ret (results_judge _ _ (w.heap.size + 2) ⟨a, root, a, p, n, c⟩ true rfl rfl (HF.out.2.2 (w.heap.size + 2, boxQ ⟨a, root, a, p, n, c⟩) (by simp)).1) rfl ⟨rfl, HF.out.1.2.1⟩
set_option maxHeartbeats 8000000 in
set_option maxRecDepth 100000 in
theorem judge_ok {a : Option Addr} {zs : List Cel} {w : World} {root r2 : Int} {p p2 : Option Addr} {n c n2 c2 : Nat} (en : Bool) :
    Calls Try.prog 24 #[.agg #[.pointer a, .int .i64 root, .pointer a, .slice p n c], .agg #[.pointer a, .int .i64 r2], .int .i64 0, .bool true, .slice p2 n2 c2, .int .i64 (zs.length : Int), .bool en] w fun e w' => e = .returned (.tuple #[.agg #[.pointer a, .int .i64 r2, .pointer a, .slice p2 n2 c2], .bool true]) ∧ Below w.heap.size w w' := by
  have P3 := Lib.hid ((((ps_nil w).addAt (boxQ ⟨a, root, a, p, n, c⟩) rfl).addAt (g := w.heap.size + 1) (boxS (.pointer a) r2) (by simp)).addAt (g := w.heap.size + 2) (boxQ Qn.zero) (by simp))
  go_enter Try.func24, Try.ntmps24
  go_wp2_with (refine wpList_store_one rfl (.tmp 14) (.tmp 54) rfl (w.heap.size + 2) ⟨a, r2, a, p2, n2, c2⟩ Qn.zero rfl rfl (heap_alloc_at _ _ _ (by simp)) ?_; intro w4 hst; have HST := Lib.hid hst; clear hst)
  exact bodyPost_ret (results_judge _ _ (w.heap.size + 2) ⟨a, r2, a, p2, n2, c2⟩ true rfl rfl HST.out.2.2.2.2.1) rfl ⟨rfl, (P3.out.store (fun q hq e => by
    simp only [List.mem_cons, List.not_mem_nil, or_false] at hq
    rcases hq with rfl | rfl <;> (simp only at e; omega)) (by omega) HST.out).1.2.1⟩
end Go.Proofs.Ytbgepeokadmemaa.Q
