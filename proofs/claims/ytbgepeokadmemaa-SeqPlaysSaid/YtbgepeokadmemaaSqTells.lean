/-
  SeqPlays: tells' contract. Not a statement of the seat.
-/
import Derived.Test.YtbgepeokadmemaaSqRef
import Derived.Test.YtbgepeokadmemaaHead4
import Derived.BigQuiet
namespace Go.Proofs.Ytbgepeokadmemaa.Q
open Go.ChangeShapes Go.WideShapes Go.ChangeAt Go.RowKit Go.Sort Base F BigFrame
theorem rindex_b {base : Nat} {v : Value} {xs : List Int} (i : Int) (w : World) (h : Lst.Ints base w v xs) : Calls Try.prog 29 #[v, .int .i64 i] w fun e w' => e = .returned (.int .i64 (Om.idx xs i)) ∧ Below w.heap.size w w' :=
  (Or.rindex_any i w h).mono fun _ _ h => ⟨h.1, h.2 ▸ Below.refl _ _⟩
set_option maxHeartbeats 16000000 in
set_option maxRecDepth 100000 in
theorem sqtells {a : Option Addr} {o : Option Nat} {room : Nat} {zs : List Cel} {w : World} {t : Tre} {root : Int} {p : Option Addr} {c : Nat} (kind from_ i val : Int) (hib : -9223372036854775808 ≤ i ∧ i ≤ 9223372036854775807) (h : ArV w (.pointer a) o room zs) (ht : Tr zs t root) (hsz : t.size < 65536) (hv : Or.SL w (.slice p t.vals.length c) t.vals) :
    Calls Try.prog 9 #[.agg #[.pointer a, .int .i64 root, .pointer a, .slice p t.vals.length c], .agg #[.int .i64 kind, .int .i64 from_, .int .i64 i, .int .i64 val]] w fun e w' => e = .returned (.bool true) ∧ Below w.heap.size w w' := by
  have HLL : Hid (t.vals.length = t.size) := Lib.hid (Tre.vals_len t)
  have HT := Lib.hid ht
  have HSZ := Lib.hid hsz
  obtain ⟨X0, hX0⟩ : ∃ X0, X0 = (w.alloc (boxQ ⟨a, root, a, p, t.vals.length, c⟩)).alloc (boxD7 kind from_ i val) := ⟨_, rfl⟩
  have H0 : Hid (Below w.heap.size w X0) := Lib.hid (by rw [hX0]; exact ((Below.refl _ _).alloc (Nat.le_refl _) _).alloc (by simp) _)
  have HX : Hid (∀ X, Below X0.heap.size X0 X → ArV X (.pointer a) o room zs ∧ Or.SL X (.slice p t.vals.length c) t.vals ∧ X.heap[w.heap.size]? = some (boxQ ⟨a, root, a, p, t.vals.length, c⟩) ∧ X.heap[w.heap.size + 1]? = some (boxD7 kind from_ i val)) := Lib.hid fun X hX =>
    ⟨(h.below H0.out).below hX, (hv.below H0.out).below hX, (hX.block _ (by rw [hX0]; simp; omega)).trans (by rw [hX0]; exact heap_alloc_lt _ _ _ _ (heap_alloc_at _ _ _ rfl)), (hX.block _ (by rw [hX0]; simp)).trans (by rw [hX0]; exact heap_alloc_at _ _ _ (by simp))⟩
  have hX1 : (w.alloc (.cells #[.pointer a, .int .i64 root, .pointer a, .slice p t.vals.length c] 31)).alloc (.cells #[.int .i64 kind, .int .i64 from_, .int .i64 i, .int .i64 val] 34) = X0 := hX0.symm
  clear hX0 h ht hsz hv
  have HX1 := Lib.hid hX1
  clear hX1
  have HAT : Hid (∀ X, Below X0.heap.size X0 X → Calls Try.prog 13 #[.agg #[.pointer a, .int .i64 root], .int .i64 i] X (IntBoolM (if 0 ≤ i ∧ i < (t.vals.length : Int) then (t.vals.getD i.toNat 0, true) else (0, false)).1 (if 0 ≤ i ∧ i < (t.vals.length : Int) then (t.vals.getD i.toNat 0, true) else (0, false)).2 X)) := Lib.hid fun X hX => by
    have := psat i (HX.out X hX).1 (t := t) (root := root) HT.out hib
    rw [atV_vals, ← HLL.out] at this
    exact this
  obtain ⟨L, hL⟩ : ∃ L, L = t.vals.length := ⟨_, rfl⟩
  obtain ⟨ix, hix⟩ : ∃ ix, ix = Om.idx t.vals val := ⟨_, rfl⟩
  have HIX : Hid (idxS val t.vals 0 = ix) := Lib.hid (by rw [idx_same, hix])
  have HIY : Hid (Om.idx t.vals val = ix) := Lib.hid hix.symm
  have HLS : Hid ((t.size : Int) = (t.vals.length : Int)) := Lib.hid (by rw [HLL.out])
  have HLV : Hid (t.vals.length ≤ 65536) := Lib.hid (by rw [HLL.out]; have := HSZ.out; omega)
  clear hL hix
  have HTH : Hid (∀ X, Below X0.heap.size X0 X → Calls Try.prog 22 #[.slice p t.vals.length c, .int .i64 i] X fun e w' => e = .returned (.bool (decide (0 ≤ i ∧ i < (t.vals.length : Int)))) ∧ X = w') := Lib.hid fun X hX => Or.rthere_any i X (HX.out X hX).2.1
  by_cases hi : 0 ≤ i ∧ i < (t.vals.length : Int)
  · rw [if_pos hi] at HAT
    rw [decide_eq_true hi] at HTH
    obtain ⟨m, rfl⟩ : ∃ m : Nat, i = (m : Int) := ⟨i.toNat, by omega⟩
    have hml : m < t.vals.length := by omega
    simp only [Int.toNat_natCast] at HAT
    have HC : Hid (∀ X, Below X0.heap.size X0 X → ∃ g of, p = some ⟨g, of, none⟩ ∧ X.cell? ⟨g, of + m, none⟩ = some (.int .i64 (t.vals.getD m 0))) := Lib.hid fun X hX => by
      obtain ⟨p', c', hv, _, hc⟩ := (HX.out X hX).2.1.1.1.open_
      injection hv with e1 e2 e3
      subst e1
      obtain ⟨g, of, hp, _, _, h1⟩ := hc m hml
      exact ⟨g, of, hp, h1⟩
    generalize t.vals.getD m 0 = xm at HAT HC
    obtain ⟨g, of, hp, _⟩ := HC.out X0 (Below.refl _ _)
    subst hp
    have HCC : Hid (∀ X, Below X0.heap.size X0 X → X.cell? ⟨g, of + m, none⟩ = some (.int .i64 xm)) := Lib.hid fun X hX => by
      obtain ⟨g', of', hp, h1⟩ := HC.out X hX
      injection hp with hp
      injection hp with e1 e2
      subst e1 e2
      exact h1
    clear HC
    go_enter Try.func9, Try.ntmps9
    go_wp2_with fail
    rw [HX1.out]
    clear HX1
    refine (HAT.out _ (Below.refl _ _)).mono ?_
    rintro e w1 ⟨rfl, hb⟩
    have B1 := Lib.hid hb
    clear hb HAT
    obtain ⟨hgx, x0, x1, x2, x3⟩ := cellsQ (HX.out _ B1.out).2.2.1
    obtain ⟨hgy, y0, y1, y2, y3⟩ := cellsD7 (HX.out _ B1.out).2.2.2
    simp only at x0 x1 x2 x3
    go_wp2_with fail
    refine (HTH.out _ B1.out).mono ?_
    rintro e w2 ⟨rfl, rfl⟩
    clear HTH
    have cA := HCC.out _ B1.out
    have hgA := block_lt_of_cell cA
    have hme : ((m : Int) < (t.vals.length : Int)) := by omega
    have hxe : (xm != xm) = false := by simp
    go_upto_region 5 with fail
    have HY : Hid (∀ X, Below X0.heap.size X0 X → (X.cell? ⟨w.heap.size, 0, none⟩ = some (.pointer a) ∧ X.cell? ⟨w.heap.size, 1, none⟩ = some (.int .i64 root) ∧ X.cell? ⟨w.heap.size, 3, none⟩ = some (.slice (some ⟨g, of, none⟩) t.vals.length c) ∧ X.cell? ⟨w.heap.size + 1, 3, none⟩ = some (.int .i64 val)) ∧ ArV X (.pointer a) o room zs ∧ Or.SL X (.slice (some ⟨g, of, none⟩) t.vals.length c) t.vals) := Lib.hid fun X hX => by
      obtain ⟨_, x0, x1, x2, x3⟩ := cellsQ (HX.out X hX).2.2.1
      obtain ⟨_, y0, y1, y2, y3⟩ := cellsD7 (HX.out X hX).2.2.2
      exact ⟨⟨x0, x1, x3, y3⟩, (HX.out X hX).1, (HX.out X hX).2.1⟩
    have B0 : Hid (Below X0.heap.size X0 w1.drew) := Lib.hid B1.out.drew
    clear hgx hgy x0 x1 x2 x3 y0 y1 y2 y3
    refine wp_region_held_drew (S := (fun X => X.cell? ⟨w.heap.size, 0, none⟩ = some (.pointer a) ∧ X.cell? ⟨w.heap.size, 1, none⟩ = some (.int .i64 root) ∧ X.cell? ⟨w.heap.size, 3, none⟩ = some (.slice (some ⟨g, of, none⟩) t.vals.length c) ∧ X.cell? ⟨w.heap.size + 1, 3, none⟩ = some (.int .i64 val))) (by as_aux_lemma => kernel_rfl) (HY.out _ B0.out).1 (fun hHeld0 => ?_)
    refine wpAnyH_take (i := 0) (v := ?_) rfl (by as_aux_lemma => kernel_rfl) (by as_aux_lemma => kernel_rfl) (by as_aux_lemma => kernel_rfl) (fun _ _ _ h => h) (Or.inl ⟨by as_aux_lemma => rfl, ?yta0⟩) (by assumption) ?qta0
    case yta0 => (intro wz hSw; (try dsimp only at hSw); go_simp <;> with_reducible rfl)
    try simp only [Act.put, List.getElem_toArray, List.getElem_cons_zero, List.setIfInBounds_toArray, List.set_cons_zero, List.set_cons_succ]
    refine wpAnyH_take (i := 1) (v := ?_) rfl (by as_aux_lemma => kernel_rfl) (by as_aux_lemma => kernel_rfl) (by as_aux_lemma => kernel_rfl) (fun _ _ _ h => h) (Or.inl ⟨by as_aux_lemma => rfl, ?yta1⟩) (by assumption) ?qta1
    case yta1 => (intro wz hSw; (try dsimp only at hSw); go_simp <;> with_reducible rfl)
    try simp only [Act.put, List.getElem_toArray, List.getElem_cons_zero, List.getElem_cons_succ, List.setIfInBounds_toArray, List.set_cons_zero, List.set_cons_succ]
    refine wpAnyH_take (i := 2) (v := ?_) rfl (by as_aux_lemma => kernel_rfl) (by as_aux_lemma => kernel_rfl) (by as_aux_lemma => kernel_rfl) (fun _ _ _ h => h) (Or.inl ⟨by as_aux_lemma => rfl, ?yta2⟩) (by assumption) ?qta2
    case yta2 => (intro wz hSw; (try dsimp only at hSw); go_simp <;> with_reducible rfl)
    try simp only [Act.put, List.getElem_toArray, List.getElem_cons_zero, List.getElem_cons_succ, List.setIfInBounds_toArray, List.set_cons_zero, List.set_cons_succ]
    refine wpAnyH_take (i := 3) (v := ?_) rfl (by as_aux_lemma => kernel_rfl) (by as_aux_lemma => kernel_rfl) (by as_aux_lemma => kernel_rfl) (fun _ _ _ h => h) (Or.inl ⟨by as_aux_lemma => rfl, ?yta3⟩) (by assumption) ?qta3
    case yta3 => (intro wz hSw; (try dsimp only at hSw); go_simp <;> with_reducible rfl)
    try simp only [Act.put, List.getElem_toArray, List.getElem_cons_zero, List.getElem_cons_succ, List.setIfInBounds_toArray, List.set_cons_zero, List.set_cons_succ]
    refine wpAnyH_take (i := 5) (v := ?_) rfl (by as_aux_lemma => kernel_rfl) (by as_aux_lemma => kernel_rfl) (by as_aux_lemma => kernel_rfl) (fun _ _ _ h => h) (Or.inl ⟨by as_aux_lemma => rfl, ?yta5⟩) (by assumption) ?qta5
    case yta5 => (intro wz hSw; (try dsimp only at hSw); go_simp <;> with_reducible rfl)
    try simp only [Act.put, List.getElem_toArray, List.getElem_cons_zero, List.getElem_cons_succ, List.setIfInBounds_toArray, List.set_cons_zero, List.set_cons_succ]
    refine wpAnyH_take (i := 6) (v := ?_) rfl (by as_aux_lemma => kernel_rfl) (by as_aux_lemma => kernel_rfl) (by as_aux_lemma => kernel_rfl) (fun _ _ _ h => h) (Or.inl ⟨by as_aux_lemma => rfl, ?yta6⟩) (by assumption) ?qta6
    case yta6 => (intro wz hSw; (try dsimp only at hSw); go_simp <;> with_reducible rfl)
    try simp only [Act.put, List.getElem_toArray, List.getElem_cons_zero, List.getElem_cons_succ, List.setIfInBounds_toArray, List.set_cons_zero, List.set_cons_succ]
    refine wpAnyH_take (i := 7) (v := ?_) rfl (by as_aux_lemma => kernel_rfl) (by as_aux_lemma => kernel_rfl) (by as_aux_lemma => kernel_rfl) (fun _ _ _ h => h) (Or.inl ⟨by as_aux_lemma => rfl, ?yta7⟩) (by assumption) ?qta7
    case yta7 => (intro wz hSw; (try dsimp only at hSw); go_simp <;> with_reducible rfl)
    try simp only [Act.put, List.getElem_toArray, List.getElem_cons_zero, List.getElem_cons_succ, List.setIfInBounds_toArray, List.set_cons_zero, List.set_cons_succ]
    refine wpAnyH_take (i := 8) (v := ?_) rfl (by as_aux_lemma => kernel_rfl) (by as_aux_lemma => kernel_rfl) (by as_aux_lemma => kernel_rfl) (fun _ _ _ h => h) (Or.inl ⟨by as_aux_lemma => rfl, ?yta8⟩) (by assumption) ?qta8
    case yta8 => (intro wz hSw; (try dsimp only at hSw); go_simp <;> with_reducible rfl)
    try simp only [Act.put, List.getElem_toArray, List.getElem_cons_zero, List.getElem_cons_succ, List.setIfInBounds_toArray, List.set_cons_zero, List.set_cons_succ]
    refine wpAnyH_ready (rs := [4]) (by as_aux_lemma => kernel_rfl) (by simp) ?_
    refine AllReadyH.cons rfl (fun K hK => ?_) AllReadyH.nil
    go_simp
    refine (psindex val (HY.out _ B0.out).2.1 (t := t) (root := root) HT.out HSZ.out).mono ?_
    rintro e u1 ⟨he, hb⟩
    rw [HIX.out] at he
    subst he
    have B1 := Lib.hid (Below.trans (show Below X0.heap.size X0 _ from B0.out) (hb.mono (show X0.heap.size ≤ _ from Below.size B0.out)))
    clear hb
    refine hK.out _ _ (HY.out _ B1.out).1 (fun hHeld1 => ?_)
    clear hK K
    try simp only [Act.put, List.getElem_toArray, List.getElem_cons_zero, List.getElem_cons_succ, List.setIfInBounds_toArray, List.set_cons_zero, List.set_cons_succ]
    refine wpAnyH_ready (rs := [9]) (by as_aux_lemma => kernel_rfl) (by simp) ?_
    refine AllReadyH.cons rfl (fun K hK => ?_) AllReadyH.nil
    go_simp
    refine (rindex_b val _ (HY.out _ B1.out).2.2.1.1).mono ?_
    rintro e u2 ⟨he, hb⟩
    rw [HIY.out] at he
    subst he
    have B2 := Lib.hid (Below.trans (show Below X0.heap.size X0 _ from B1.out) (hb.mono (show X0.heap.size ≤ _ from Below.size B1.out)))
    clear hb
    refine hK.out _ _ (HY.out _ B2.out).1 (fun hHeld2 => ?_)
    clear hK K
    try simp only [Act.put, List.getElem_toArray, List.getElem_cons_zero, List.getElem_cons_succ, List.setIfInBounds_toArray, List.set_cons_zero, List.set_cons_succ]
    refine wpAnyH_take (i := 10) (v := ?_) rfl (by as_aux_lemma => kernel_rfl) (by as_aux_lemma => kernel_rfl) (by as_aux_lemma => kernel_rfl) (fun _ _ _ h => h) (Or.inl ⟨by as_aux_lemma => rfl, ?yta10⟩) (by assumption) ?qta10
    case yta10 => (intro wz hSw; (try dsimp only at hSw); go_simp <;> with_reducible rfl)
    try simp only [Act.put, List.getElem_toArray, List.getElem_cons_zero, List.getElem_cons_succ, List.setIfInBounds_toArray, List.set_cons_zero, List.set_cons_succ]
    refine wpAnyH_take (i := 11) (v := ?_) rfl (by as_aux_lemma => kernel_rfl) (by as_aux_lemma => kernel_rfl) (by as_aux_lemma => kernel_rfl) (fun _ _ _ h => h) (Or.inl ⟨by as_aux_lemma => rfl, ?yta11⟩) (by assumption) ?qta11
    case yta11 => (intro wz hSw; (try dsimp only at hSw); go_simp <;> with_reducible rfl)
    try simp only [Act.put, List.getElem_toArray, List.getElem_cons_zero, List.getElem_cons_succ, List.setIfInBounds_toArray, List.set_cons_zero, List.set_cons_succ]
    refine wpAnyH_take (i := 12) (v := ?_) rfl (by as_aux_lemma => kernel_rfl) (by as_aux_lemma => kernel_rfl) (by as_aux_lemma => kernel_rfl) (fun _ _ _ h => h) (Or.inl ⟨by as_aux_lemma => rfl, ?yta12⟩) (by assumption) ?qta12
    case yta12 => (intro wz hSw; (try dsimp only at hSw); go_simp <;> with_reducible rfl)
    try simp only [Act.put, List.getElem_toArray, List.getElem_cons_zero, List.getElem_cons_succ, List.setIfInBounds_toArray, List.set_cons_zero, List.set_cons_succ]
    refine wpAnyH_take (i := 13) (v := ?_) rfl (by as_aux_lemma => kernel_rfl) (by as_aux_lemma => kernel_rfl) (by as_aux_lemma => kernel_rfl) (fun _ _ _ h => h) (Or.inl ⟨by as_aux_lemma => rfl, ?yta13⟩) (by assumption) ?qta13
    case yta13 => (intro wz hSw; (try dsimp only at hSw); go_simp <;> with_reducible rfl)
    try simp only [Act.put, List.getElem_toArray, List.getElem_cons_zero, List.getElem_cons_succ, List.setIfInBounds_toArray, List.set_cons_zero, List.set_cons_succ]
    refine wpAnyH_take (i := 15) (v := ?_) rfl (by as_aux_lemma => kernel_rfl) (by as_aux_lemma => kernel_rfl) (by as_aux_lemma => kernel_rfl) (fun _ _ _ h => h) (Or.inl ⟨by as_aux_lemma => rfl, ?yta15⟩) (by assumption) ?qta15
    case yta15 => (intro wz hSw; (try dsimp only at hSw); go_simp <;> with_reducible rfl)
    try simp only [Act.put, List.getElem_toArray, List.getElem_cons_zero, List.getElem_cons_succ, List.setIfInBounds_toArray, List.set_cons_zero, List.set_cons_succ]
    refine wpAnyH_take (i := 16) (v := ?_) rfl (by as_aux_lemma => kernel_rfl) (by as_aux_lemma => kernel_rfl) (by as_aux_lemma => kernel_rfl) (fun _ _ _ h => h) (Or.inl ⟨by as_aux_lemma => rfl, ?yta16⟩) (by assumption) ?qta16
    case yta16 => (intro wz hSw; (try dsimp only at hSw); go_simp <;> with_reducible rfl)
    try simp only [Act.put, List.getElem_toArray, List.getElem_cons_zero, List.getElem_cons_succ, List.setIfInBounds_toArray, List.set_cons_zero, List.set_cons_succ]
    refine wpAnyH_take (i := 17) (v := ?_) rfl (by as_aux_lemma => kernel_rfl) (by as_aux_lemma => kernel_rfl) (by as_aux_lemma => kernel_rfl) (fun _ _ _ h => h) (Or.inl ⟨by as_aux_lemma => rfl, ?yta17⟩) (by assumption) ?qta17
    case yta17 => (intro wz hSw; (try dsimp only at hSw); go_simp <;> with_reducible rfl)
    try simp only [Act.put, List.getElem_toArray, List.getElem_cons_zero, List.getElem_cons_succ, List.setIfInBounds_toArray, List.set_cons_zero, List.set_cons_succ]
    refine wpAnyH_ready (rs := [14]) (by as_aux_lemma => kernel_rfl) (by simp) ?_
    refine AllReadyH.cons rfl (fun K hK => ?_) AllReadyH.nil
    go_simp
    refine (pslen (HY.out _ B2.out).2.1 (t := t) (root := root) HT.out).mono ?_
    rintro e u3 ⟨he, hb⟩
    rw [HLS.out] at he
    subst he
    have B3 := Lib.hid (Below.trans (show Below X0.heap.size X0 _ from B2.out) (hb.mono (show X0.heap.size ≤ _ from Below.size B2.out)))
    clear hb
    refine hK.out _ _ (HY.out _ B3.out).1 (fun hHeld3 => ?_)
    clear hK K
    try simp only [Act.put, List.getElem_toArray, List.getElem_cons_zero, List.getElem_cons_succ, List.setIfInBounds_toArray, List.set_cons_zero, List.set_cons_succ]
    refine wpAnyH_take (i := 18) (v := ?_) rfl (by as_aux_lemma => kernel_rfl) (by as_aux_lemma => kernel_rfl) (by as_aux_lemma => kernel_rfl) (fun _ _ _ h => h) (Or.inl ⟨by as_aux_lemma => rfl, ?yta18⟩) (by assumption) ?qta18
    case yta18 => (intro wz hSw; (try dsimp only at hSw); go_simp <;> with_reducible rfl)
    try simp only [Act.put, List.getElem_toArray, List.getElem_cons_zero, List.getElem_cons_succ, List.setIfInBounds_toArray, List.set_cons_zero, List.set_cons_succ]
    refine wpAnyH_take (i := 19) (v := ?_) rfl (by as_aux_lemma => kernel_rfl) (by as_aux_lemma => kernel_rfl) (by as_aux_lemma => kernel_rfl) (fun _ _ _ h => h) (Or.inl ⟨by as_aux_lemma => rfl, ?yta19⟩) (by assumption) ?qta19
    case yta19 => (intro wz hSw; (try dsimp only at hSw); go_simp <;> with_reducible rfl)
    try simp only [Act.put, List.getElem_toArray, List.getElem_cons_zero, List.getElem_cons_succ, List.setIfInBounds_toArray, List.set_cons_zero, List.set_cons_succ]
    refine wpAnyH_take (i := 20) (v := ?_) rfl (by as_aux_lemma => kernel_rfl) (by as_aux_lemma => kernel_rfl) (by as_aux_lemma => kernel_rfl) (fun _ _ _ h => h) (Or.inl ⟨by as_aux_lemma => rfl, ?yta20⟩) (by assumption) ?qta20
    case yta20 => (intro wz hSw; (try dsimp only at hSw); go_simp <;> with_reducible rfl)
    try simp only [Act.put, List.getElem_toArray, List.getElem_cons_zero, List.getElem_cons_succ, List.setIfInBounds_toArray, List.set_cons_zero, List.set_cons_succ]
    refine wpAnyH_take (i := 21) (v := ?_) rfl (by as_aux_lemma => kernel_rfl) (by as_aux_lemma => kernel_rfl) (by as_aux_lemma => kernel_rfl) (fun _ _ _ h => h) (Or.inl ⟨by as_aux_lemma => rfl, ?yta21⟩) (by assumption) ?qta21
    case yta21 => (intro wz hSw; (try dsimp only at hSw); go_simp <;> with_reducible rfl)
    try simp only [Act.put, List.getElem_toArray, List.getElem_cons_zero, List.getElem_cons_succ, List.setIfInBounds_toArray, List.set_cons_zero, List.set_cons_succ]
    refine wpAnyH_take (i := 22) (v := ?_) rfl (by as_aux_lemma => kernel_rfl) (by as_aux_lemma => kernel_rfl) (by as_aux_lemma => kernel_rfl) (fun _ _ _ h => h) (Or.inl ⟨by as_aux_lemma => rfl, ?yta22⟩) (by assumption) ?qta22
    case yta22 => (intro wz hSw; (try dsimp only at hSw); go_simp <;> with_reducible rfl)
    try simp only [Act.put, List.getElem_toArray, List.getElem_cons_zero, List.getElem_cons_succ, List.setIfInBounds_toArray, List.set_cons_zero, List.set_cons_succ]
    refine wpAnyH_take (i := 24) (v := ?_) rfl (by as_aux_lemma => kernel_rfl) (by as_aux_lemma => kernel_rfl) (by as_aux_lemma => kernel_rfl) (fun _ _ _ h => h) (Or.inl ⟨by as_aux_lemma => rfl, ?yta24⟩) (by assumption) ?qta24
    case yta24 => (intro wz hSw; (try dsimp only at hSw); go_simp <;> with_reducible rfl)
    try simp only [Act.put, List.getElem_toArray, List.getElem_cons_zero, List.getElem_cons_succ, List.setIfInBounds_toArray, List.set_cons_zero, List.set_cons_succ]
    refine wpAnyH_take (i := 25) (v := ?_) rfl (by as_aux_lemma => kernel_rfl) (by as_aux_lemma => kernel_rfl) (by as_aux_lemma => kernel_rfl) (fun _ _ _ h => h) (Or.inl ⟨by as_aux_lemma => rfl, ?yta25⟩) (by assumption) ?qta25
    case yta25 => (intro wz hSw; (try dsimp only at hSw); go_simp <;> with_reducible rfl)
    try simp only [Act.put, List.getElem_toArray, List.getElem_cons_zero, List.getElem_cons_succ, List.setIfInBounds_toArray, List.set_cons_zero, List.set_cons_succ]
    refine wpAnyH_ready (rs := [23]) (by as_aux_lemma => kernel_rfl) (by simp) ?_
    refine AllReadyH.cons rfl (fun K hK => ?_) AllReadyH.nil
    go_simp
    refine (pslist (HY.out _ B3.out).2.1 (t := t) (root := root) HT.out HSZ.out).mono ?_
    rintro e u4 ⟨x23, rfl, hown, hb⟩
    have hx := hown.ints (by have := HLV.out; omega)
    have F23 : Hid (Lst.Ints 0 u4 x23 t.vals) := Lib.hid hx
    have hb23 := Lib.hid hb
    have B4 := Lib.hid (Below.trans (show Below X0.heap.size X0 _ from B3.out) (hb.mono (show X0.heap.size ≤ _ from Below.size B3.out)))
    clear hb hown hx
    refine hK.out _ _ (HY.out _ B4.out).1 (fun hHeld4 => ?_)
    clear hK K
    try simp only [Act.put, List.getElem_toArray, List.getElem_cons_zero, List.getElem_cons_succ, List.setIfInBounds_toArray, List.set_cons_zero, List.set_cons_succ]
    refine wpAnyH_ready (rs := [26]) (by as_aux_lemma => kernel_rfl) (by simp) ?_
    refine AllReadyH.cons rfl (fun K hK => ?_) AllReadyH.nil
    go_simp
    refine (sameI_yes F23.out (HY.out _ B4.out).2.2.1.1).mono ?_
    rintro e u5 ⟨rfl, hb⟩
    have B5 := Lib.hid (Below.trans (show Below X0.heap.size X0 _ from B4.out) (hb.mono (show X0.heap.size ≤ _ from Below.size B4.out)))
    clear hb
    refine hK.out _ _ (HY.out _ B5.out).1 (fun hHeld5 => ?_)
    clear hK K
    try simp only [Act.put, List.getElem_toArray, List.getElem_cons_zero, List.getElem_cons_succ, List.setIfInBounds_toArray, List.set_cons_zero, List.set_cons_succ]
    refine wpAnyH_take (i := 27) (v := ?_) rfl (by as_aux_lemma => kernel_rfl) (by as_aux_lemma => kernel_rfl) (by as_aux_lemma => kernel_rfl) (fun _ _ _ h => h) (Or.inl ⟨by as_aux_lemma => rfl, ?yta27⟩) (by assumption) ?qta27
    case yta27 => (intro wz hSw; (try dsimp only at hSw); go_simp <;> with_reducible rfl)
    try simp only [Act.put, List.getElem_toArray, List.getElem_cons_zero, List.getElem_cons_succ, List.setIfInBounds_toArray, List.set_cons_zero, List.set_cons_succ]
    refine wpAnyH_take (i := 28) (v := ?_) rfl (by as_aux_lemma => kernel_rfl) (by as_aux_lemma => kernel_rfl) (by as_aux_lemma => kernel_rfl) (fun _ _ _ h => h) (Or.inl ⟨by as_aux_lemma => rfl, ?yta28⟩) (by assumption) ?qta28
    case yta28 => (intro wz hSw; (try dsimp only at hSw); go_simp <;> with_reducible rfl)
    try simp only [Act.put, List.getElem_toArray, List.getElem_cons_zero, List.getElem_cons_succ, List.setIfInBounds_toArray, List.set_cons_zero, List.set_cons_succ]
    refine wpAnyH_done (by as_aux_lemma => kernel_rfl) ?_ _
    have BF := Lib.hid (H0.out.trans (Below.mono (B5).out H0.out.size))
    go_wp2_with fail
    go_ret
    exact ⟨rfl, BF.out⟩
  · rw [if_neg hi] at HAT
    rw [decide_eq_false hi] at HTH
    simp only at HAT
    go_enter Try.func9, Try.ntmps9
    go_wp2_with fail
    rw [HX1.out]
    clear HX1
    refine (HAT.out _ (Below.refl _ _)).mono ?_
    rintro e w1 ⟨rfl, hb⟩
    have B1 := Lib.hid hb
    clear hb HAT
    obtain ⟨hgx, x0, x1, x2, x3⟩ := cellsQ (HX.out _ B1.out).2.2.1
    obtain ⟨hgy, y0, y1, y2, y3⟩ := cellsD7 (HX.out _ B1.out).2.2.2
    simp only at x0 x1 x2 x3
    go_wp2_with fail
    refine (HTH.out _ B1.out).mono ?_
    rintro e w2 ⟨rfl, rfl⟩
    clear HTH
    go_upto_region 5 with fail
    have HY : Hid (∀ X, Below X0.heap.size X0 X → (X.cell? ⟨w.heap.size, 0, none⟩ = some (.pointer a) ∧ X.cell? ⟨w.heap.size, 1, none⟩ = some (.int .i64 root) ∧ X.cell? ⟨w.heap.size, 3, none⟩ = some (.slice p t.vals.length c) ∧ X.cell? ⟨w.heap.size + 1, 3, none⟩ = some (.int .i64 val)) ∧ ArV X (.pointer a) o room zs ∧ Or.SL X (.slice p t.vals.length c) t.vals) := Lib.hid fun X hX => by
      obtain ⟨_, x0, x1, x2, x3⟩ := cellsQ (HX.out X hX).2.2.1
      obtain ⟨_, y0, y1, y2, y3⟩ := cellsD7 (HX.out X hX).2.2.2
      exact ⟨⟨x0, x1, x3, y3⟩, (HX.out X hX).1, (HX.out X hX).2.1⟩
    have B0 : Hid (Below X0.heap.size X0 w1.drew) := Lib.hid B1.out.drew
    clear hgx hgy x0 x1 x2 x3 y0 y1 y2 y3
    refine wp_region_held_drew (S := (fun X => X.cell? ⟨w.heap.size, 0, none⟩ = some (.pointer a) ∧ X.cell? ⟨w.heap.size, 1, none⟩ = some (.int .i64 root) ∧ X.cell? ⟨w.heap.size, 3, none⟩ = some (.slice p t.vals.length c) ∧ X.cell? ⟨w.heap.size + 1, 3, none⟩ = some (.int .i64 val))) (by as_aux_lemma => kernel_rfl) (HY.out _ B0.out).1 (fun hHeld0 => ?_)
    refine wpAnyH_take (i := 0) (v := ?_) rfl (by as_aux_lemma => kernel_rfl) (by as_aux_lemma => kernel_rfl) (by as_aux_lemma => kernel_rfl) (fun _ _ _ h => h) (Or.inl ⟨by as_aux_lemma => rfl, ?ytb0⟩) (by assumption) ?qtb0
    case ytb0 => (intro wz hSw; (try dsimp only at hSw); go_simp <;> with_reducible rfl)
    try simp only [Act.put, List.getElem_toArray, List.getElem_cons_zero, List.setIfInBounds_toArray, List.set_cons_zero, List.set_cons_succ]
    refine wpAnyH_take (i := 1) (v := ?_) rfl (by as_aux_lemma => kernel_rfl) (by as_aux_lemma => kernel_rfl) (by as_aux_lemma => kernel_rfl) (fun _ _ _ h => h) (Or.inl ⟨by as_aux_lemma => rfl, ?ytb1⟩) (by assumption) ?qtb1
    case ytb1 => (intro wz hSw; (try dsimp only at hSw); go_simp <;> with_reducible rfl)
    try simp only [Act.put, List.getElem_toArray, List.getElem_cons_zero, List.getElem_cons_succ, List.setIfInBounds_toArray, List.set_cons_zero, List.set_cons_succ]
    refine wpAnyH_take (i := 2) (v := ?_) rfl (by as_aux_lemma => kernel_rfl) (by as_aux_lemma => kernel_rfl) (by as_aux_lemma => kernel_rfl) (fun _ _ _ h => h) (Or.inl ⟨by as_aux_lemma => rfl, ?ytb2⟩) (by assumption) ?qtb2
    case ytb2 => (intro wz hSw; (try dsimp only at hSw); go_simp <;> with_reducible rfl)
    try simp only [Act.put, List.getElem_toArray, List.getElem_cons_zero, List.getElem_cons_succ, List.setIfInBounds_toArray, List.set_cons_zero, List.set_cons_succ]
    refine wpAnyH_take (i := 3) (v := ?_) rfl (by as_aux_lemma => kernel_rfl) (by as_aux_lemma => kernel_rfl) (by as_aux_lemma => kernel_rfl) (fun _ _ _ h => h) (Or.inl ⟨by as_aux_lemma => rfl, ?ytb3⟩) (by assumption) ?qtb3
    case ytb3 => (intro wz hSw; (try dsimp only at hSw); go_simp <;> with_reducible rfl)
    try simp only [Act.put, List.getElem_toArray, List.getElem_cons_zero, List.getElem_cons_succ, List.setIfInBounds_toArray, List.set_cons_zero, List.set_cons_succ]
    refine wpAnyH_take (i := 5) (v := ?_) rfl (by as_aux_lemma => kernel_rfl) (by as_aux_lemma => kernel_rfl) (by as_aux_lemma => kernel_rfl) (fun _ _ _ h => h) (Or.inl ⟨by as_aux_lemma => rfl, ?ytb5⟩) (by assumption) ?qtb5
    case ytb5 => (intro wz hSw; (try dsimp only at hSw); go_simp <;> with_reducible rfl)
    try simp only [Act.put, List.getElem_toArray, List.getElem_cons_zero, List.getElem_cons_succ, List.setIfInBounds_toArray, List.set_cons_zero, List.set_cons_succ]
    refine wpAnyH_take (i := 6) (v := ?_) rfl (by as_aux_lemma => kernel_rfl) (by as_aux_lemma => kernel_rfl) (by as_aux_lemma => kernel_rfl) (fun _ _ _ h => h) (Or.inl ⟨by as_aux_lemma => rfl, ?ytb6⟩) (by assumption) ?qtb6
    case ytb6 => (intro wz hSw; (try dsimp only at hSw); go_simp <;> with_reducible rfl)
    try simp only [Act.put, List.getElem_toArray, List.getElem_cons_zero, List.getElem_cons_succ, List.setIfInBounds_toArray, List.set_cons_zero, List.set_cons_succ]
    refine wpAnyH_take (i := 7) (v := ?_) rfl (by as_aux_lemma => kernel_rfl) (by as_aux_lemma => kernel_rfl) (by as_aux_lemma => kernel_rfl) (fun _ _ _ h => h) (Or.inl ⟨by as_aux_lemma => rfl, ?ytb7⟩) (by assumption) ?qtb7
    case ytb7 => (intro wz hSw; (try dsimp only at hSw); go_simp <;> with_reducible rfl)
    try simp only [Act.put, List.getElem_toArray, List.getElem_cons_zero, List.getElem_cons_succ, List.setIfInBounds_toArray, List.set_cons_zero, List.set_cons_succ]
    refine wpAnyH_take (i := 8) (v := ?_) rfl (by as_aux_lemma => kernel_rfl) (by as_aux_lemma => kernel_rfl) (by as_aux_lemma => kernel_rfl) (fun _ _ _ h => h) (Or.inl ⟨by as_aux_lemma => rfl, ?ytb8⟩) (by assumption) ?qtb8
    case ytb8 => (intro wz hSw; (try dsimp only at hSw); go_simp <;> with_reducible rfl)
    try simp only [Act.put, List.getElem_toArray, List.getElem_cons_zero, List.getElem_cons_succ, List.setIfInBounds_toArray, List.set_cons_zero, List.set_cons_succ]
    refine wpAnyH_ready (rs := [4]) (by as_aux_lemma => kernel_rfl) (by simp) ?_
    refine AllReadyH.cons rfl (fun K hK => ?_) AllReadyH.nil
    go_simp
    refine (psindex val (HY.out _ B0.out).2.1 (t := t) (root := root) HT.out HSZ.out).mono ?_
    rintro e u1 ⟨he, hb⟩
    rw [HIX.out] at he
    subst he
    have B1 := Lib.hid (Below.trans (show Below X0.heap.size X0 _ from B0.out) (hb.mono (show X0.heap.size ≤ _ from Below.size B0.out)))
    clear hb
    refine hK.out _ _ (HY.out _ B1.out).1 (fun hHeld1 => ?_)
    clear hK K
    try simp only [Act.put, List.getElem_toArray, List.getElem_cons_zero, List.getElem_cons_succ, List.setIfInBounds_toArray, List.set_cons_zero, List.set_cons_succ]
    refine wpAnyH_ready (rs := [9]) (by as_aux_lemma => kernel_rfl) (by simp) ?_
    refine AllReadyH.cons rfl (fun K hK => ?_) AllReadyH.nil
    go_simp
    refine (rindex_b val _ (HY.out _ B1.out).2.2.1.1).mono ?_
    rintro e u2 ⟨he, hb⟩
    rw [HIY.out] at he
    subst he
    have B2 := Lib.hid (Below.trans (show Below X0.heap.size X0 _ from B1.out) (hb.mono (show X0.heap.size ≤ _ from Below.size B1.out)))
    clear hb
    refine hK.out _ _ (HY.out _ B2.out).1 (fun hHeld2 => ?_)
    clear hK K
    try simp only [Act.put, List.getElem_toArray, List.getElem_cons_zero, List.getElem_cons_succ, List.setIfInBounds_toArray, List.set_cons_zero, List.set_cons_succ]
    refine wpAnyH_take (i := 10) (v := ?_) rfl (by as_aux_lemma => kernel_rfl) (by as_aux_lemma => kernel_rfl) (by as_aux_lemma => kernel_rfl) (fun _ _ _ h => h) (Or.inl ⟨by as_aux_lemma => rfl, ?ytb10⟩) (by assumption) ?qtb10
    case ytb10 => (intro wz hSw; (try dsimp only at hSw); go_simp <;> with_reducible rfl)
    try simp only [Act.put, List.getElem_toArray, List.getElem_cons_zero, List.getElem_cons_succ, List.setIfInBounds_toArray, List.set_cons_zero, List.set_cons_succ]
    refine wpAnyH_take (i := 11) (v := ?_) rfl (by as_aux_lemma => kernel_rfl) (by as_aux_lemma => kernel_rfl) (by as_aux_lemma => kernel_rfl) (fun _ _ _ h => h) (Or.inl ⟨by as_aux_lemma => rfl, ?ytb11⟩) (by assumption) ?qtb11
    case ytb11 => (intro wz hSw; (try dsimp only at hSw); go_simp <;> with_reducible rfl)
    try simp only [Act.put, List.getElem_toArray, List.getElem_cons_zero, List.getElem_cons_succ, List.setIfInBounds_toArray, List.set_cons_zero, List.set_cons_succ]
    refine wpAnyH_take (i := 12) (v := ?_) rfl (by as_aux_lemma => kernel_rfl) (by as_aux_lemma => kernel_rfl) (by as_aux_lemma => kernel_rfl) (fun _ _ _ h => h) (Or.inl ⟨by as_aux_lemma => rfl, ?ytb12⟩) (by assumption) ?qtb12
    case ytb12 => (intro wz hSw; (try dsimp only at hSw); go_simp <;> with_reducible rfl)
    try simp only [Act.put, List.getElem_toArray, List.getElem_cons_zero, List.getElem_cons_succ, List.setIfInBounds_toArray, List.set_cons_zero, List.set_cons_succ]
    refine wpAnyH_take (i := 13) (v := ?_) rfl (by as_aux_lemma => kernel_rfl) (by as_aux_lemma => kernel_rfl) (by as_aux_lemma => kernel_rfl) (fun _ _ _ h => h) (Or.inl ⟨by as_aux_lemma => rfl, ?ytb13⟩) (by assumption) ?qtb13
    case ytb13 => (intro wz hSw; (try dsimp only at hSw); go_simp <;> with_reducible rfl)
    try simp only [Act.put, List.getElem_toArray, List.getElem_cons_zero, List.getElem_cons_succ, List.setIfInBounds_toArray, List.set_cons_zero, List.set_cons_succ]
    refine wpAnyH_take (i := 15) (v := ?_) rfl (by as_aux_lemma => kernel_rfl) (by as_aux_lemma => kernel_rfl) (by as_aux_lemma => kernel_rfl) (fun _ _ _ h => h) (Or.inl ⟨by as_aux_lemma => rfl, ?ytb15⟩) (by assumption) ?qtb15
    case ytb15 => (intro wz hSw; (try dsimp only at hSw); go_simp <;> with_reducible rfl)
    try simp only [Act.put, List.getElem_toArray, List.getElem_cons_zero, List.getElem_cons_succ, List.setIfInBounds_toArray, List.set_cons_zero, List.set_cons_succ]
    refine wpAnyH_take (i := 16) (v := ?_) rfl (by as_aux_lemma => kernel_rfl) (by as_aux_lemma => kernel_rfl) (by as_aux_lemma => kernel_rfl) (fun _ _ _ h => h) (Or.inl ⟨by as_aux_lemma => rfl, ?ytb16⟩) (by assumption) ?qtb16
    case ytb16 => (intro wz hSw; (try dsimp only at hSw); go_simp <;> with_reducible rfl)
    try simp only [Act.put, List.getElem_toArray, List.getElem_cons_zero, List.getElem_cons_succ, List.setIfInBounds_toArray, List.set_cons_zero, List.set_cons_succ]
    refine wpAnyH_take (i := 17) (v := ?_) rfl (by as_aux_lemma => kernel_rfl) (by as_aux_lemma => kernel_rfl) (by as_aux_lemma => kernel_rfl) (fun _ _ _ h => h) (Or.inl ⟨by as_aux_lemma => rfl, ?ytb17⟩) (by assumption) ?qtb17
    case ytb17 => (intro wz hSw; (try dsimp only at hSw); go_simp <;> with_reducible rfl)
    try simp only [Act.put, List.getElem_toArray, List.getElem_cons_zero, List.getElem_cons_succ, List.setIfInBounds_toArray, List.set_cons_zero, List.set_cons_succ]
    refine wpAnyH_ready (rs := [14]) (by as_aux_lemma => kernel_rfl) (by simp) ?_
    refine AllReadyH.cons rfl (fun K hK => ?_) AllReadyH.nil
    go_simp
    refine (pslen (HY.out _ B2.out).2.1 (t := t) (root := root) HT.out).mono ?_
    rintro e u3 ⟨he, hb⟩
    rw [HLS.out] at he
    subst he
    have B3 := Lib.hid (Below.trans (show Below X0.heap.size X0 _ from B2.out) (hb.mono (show X0.heap.size ≤ _ from Below.size B2.out)))
    clear hb
    refine hK.out _ _ (HY.out _ B3.out).1 (fun hHeld3 => ?_)
    clear hK K
    try simp only [Act.put, List.getElem_toArray, List.getElem_cons_zero, List.getElem_cons_succ, List.setIfInBounds_toArray, List.set_cons_zero, List.set_cons_succ]
    refine wpAnyH_take (i := 18) (v := ?_) rfl (by as_aux_lemma => kernel_rfl) (by as_aux_lemma => kernel_rfl) (by as_aux_lemma => kernel_rfl) (fun _ _ _ h => h) (Or.inl ⟨by as_aux_lemma => rfl, ?ytb18⟩) (by assumption) ?qtb18
    case ytb18 => (intro wz hSw; (try dsimp only at hSw); go_simp <;> with_reducible rfl)
    try simp only [Act.put, List.getElem_toArray, List.getElem_cons_zero, List.getElem_cons_succ, List.setIfInBounds_toArray, List.set_cons_zero, List.set_cons_succ]
    refine wpAnyH_take (i := 19) (v := ?_) rfl (by as_aux_lemma => kernel_rfl) (by as_aux_lemma => kernel_rfl) (by as_aux_lemma => kernel_rfl) (fun _ _ _ h => h) (Or.inl ⟨by as_aux_lemma => rfl, ?ytb19⟩) (by assumption) ?qtb19
    case ytb19 => (intro wz hSw; (try dsimp only at hSw); go_simp <;> with_reducible rfl)
    try simp only [Act.put, List.getElem_toArray, List.getElem_cons_zero, List.getElem_cons_succ, List.setIfInBounds_toArray, List.set_cons_zero, List.set_cons_succ]
    refine wpAnyH_take (i := 20) (v := ?_) rfl (by as_aux_lemma => kernel_rfl) (by as_aux_lemma => kernel_rfl) (by as_aux_lemma => kernel_rfl) (fun _ _ _ h => h) (Or.inl ⟨by as_aux_lemma => rfl, ?ytb20⟩) (by assumption) ?qtb20
    case ytb20 => (intro wz hSw; (try dsimp only at hSw); go_simp <;> with_reducible rfl)
    try simp only [Act.put, List.getElem_toArray, List.getElem_cons_zero, List.getElem_cons_succ, List.setIfInBounds_toArray, List.set_cons_zero, List.set_cons_succ]
    refine wpAnyH_take (i := 21) (v := ?_) rfl (by as_aux_lemma => kernel_rfl) (by as_aux_lemma => kernel_rfl) (by as_aux_lemma => kernel_rfl) (fun _ _ _ h => h) (Or.inl ⟨by as_aux_lemma => rfl, ?ytb21⟩) (by assumption) ?qtb21
    case ytb21 => (intro wz hSw; (try dsimp only at hSw); go_simp <;> with_reducible rfl)
    try simp only [Act.put, List.getElem_toArray, List.getElem_cons_zero, List.getElem_cons_succ, List.setIfInBounds_toArray, List.set_cons_zero, List.set_cons_succ]
    refine wpAnyH_take (i := 22) (v := ?_) rfl (by as_aux_lemma => kernel_rfl) (by as_aux_lemma => kernel_rfl) (by as_aux_lemma => kernel_rfl) (fun _ _ _ h => h) (Or.inl ⟨by as_aux_lemma => rfl, ?ytb22⟩) (by assumption) ?qtb22
    case ytb22 => (intro wz hSw; (try dsimp only at hSw); go_simp <;> with_reducible rfl)
    try simp only [Act.put, List.getElem_toArray, List.getElem_cons_zero, List.getElem_cons_succ, List.setIfInBounds_toArray, List.set_cons_zero, List.set_cons_succ]
    refine wpAnyH_take (i := 24) (v := ?_) rfl (by as_aux_lemma => kernel_rfl) (by as_aux_lemma => kernel_rfl) (by as_aux_lemma => kernel_rfl) (fun _ _ _ h => h) (Or.inl ⟨by as_aux_lemma => rfl, ?ytb24⟩) (by assumption) ?qtb24
    case ytb24 => (intro wz hSw; (try dsimp only at hSw); go_simp <;> with_reducible rfl)
    try simp only [Act.put, List.getElem_toArray, List.getElem_cons_zero, List.getElem_cons_succ, List.setIfInBounds_toArray, List.set_cons_zero, List.set_cons_succ]
    refine wpAnyH_take (i := 25) (v := ?_) rfl (by as_aux_lemma => kernel_rfl) (by as_aux_lemma => kernel_rfl) (by as_aux_lemma => kernel_rfl) (fun _ _ _ h => h) (Or.inl ⟨by as_aux_lemma => rfl, ?ytb25⟩) (by assumption) ?qtb25
    case ytb25 => (intro wz hSw; (try dsimp only at hSw); go_simp <;> with_reducible rfl)
    try simp only [Act.put, List.getElem_toArray, List.getElem_cons_zero, List.getElem_cons_succ, List.setIfInBounds_toArray, List.set_cons_zero, List.set_cons_succ]
    refine wpAnyH_ready (rs := [23]) (by as_aux_lemma => kernel_rfl) (by simp) ?_
    refine AllReadyH.cons rfl (fun K hK => ?_) AllReadyH.nil
    go_simp
    refine (pslist (HY.out _ B3.out).2.1 (t := t) (root := root) HT.out HSZ.out).mono ?_
    rintro e u4 ⟨x23, rfl, hown, hb⟩
    have hx := hown.ints (by have := HLV.out; omega)
    have F23 : Hid (Lst.Ints 0 u4 x23 t.vals) := Lib.hid hx
    have hb23 := Lib.hid hb
    have B4 := Lib.hid (Below.trans (show Below X0.heap.size X0 _ from B3.out) (hb.mono (show X0.heap.size ≤ _ from Below.size B3.out)))
    clear hb hown hx
    refine hK.out _ _ (HY.out _ B4.out).1 (fun hHeld4 => ?_)
    clear hK K
    try simp only [Act.put, List.getElem_toArray, List.getElem_cons_zero, List.getElem_cons_succ, List.setIfInBounds_toArray, List.set_cons_zero, List.set_cons_succ]
    refine wpAnyH_ready (rs := [26]) (by as_aux_lemma => kernel_rfl) (by simp) ?_
    refine AllReadyH.cons rfl (fun K hK => ?_) AllReadyH.nil
    go_simp
    refine (sameI_yes F23.out (HY.out _ B4.out).2.2.1.1).mono ?_
    rintro e u5 ⟨rfl, hb⟩
    have B5 := Lib.hid (Below.trans (show Below X0.heap.size X0 _ from B4.out) (hb.mono (show X0.heap.size ≤ _ from Below.size B4.out)))
    clear hb
    refine hK.out _ _ (HY.out _ B5.out).1 (fun hHeld5 => ?_)
    clear hK K
    try simp only [Act.put, List.getElem_toArray, List.getElem_cons_zero, List.getElem_cons_succ, List.setIfInBounds_toArray, List.set_cons_zero, List.set_cons_succ]
    refine wpAnyH_take (i := 27) (v := ?_) rfl (by as_aux_lemma => kernel_rfl) (by as_aux_lemma => kernel_rfl) (by as_aux_lemma => kernel_rfl) (fun _ _ _ h => h) (Or.inl ⟨by as_aux_lemma => rfl, ?ytb27⟩) (by assumption) ?qtb27
    case ytb27 => (intro wz hSw; (try dsimp only at hSw); go_simp <;> with_reducible rfl)
    try simp only [Act.put, List.getElem_toArray, List.getElem_cons_zero, List.getElem_cons_succ, List.setIfInBounds_toArray, List.set_cons_zero, List.set_cons_succ]
    refine wpAnyH_take (i := 28) (v := ?_) rfl (by as_aux_lemma => kernel_rfl) (by as_aux_lemma => kernel_rfl) (by as_aux_lemma => kernel_rfl) (fun _ _ _ h => h) (Or.inl ⟨by as_aux_lemma => rfl, ?ytb28⟩) (by assumption) ?qtb28
    case ytb28 => (intro wz hSw; (try dsimp only at hSw); go_simp <;> with_reducible rfl)
    try simp only [Act.put, List.getElem_toArray, List.getElem_cons_zero, List.getElem_cons_succ, List.setIfInBounds_toArray, List.set_cons_zero, List.set_cons_succ]
    refine wpAnyH_done (by as_aux_lemma => kernel_rfl) ?_ _
    have BF := Lib.hid (H0.out.trans (Below.mono (B5).out H0.out.size))
    go_wp2_with fail
    go_ret
    exact ⟨rfl, BF.out⟩
end Go.Proofs.Ytbgepeokadmemaa.Q
