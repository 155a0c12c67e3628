/-
  MapPlays: tells' contract. Not a statement of the seat.
-/
import Derived.Test.YtpmimngngehmlaaPmOne
import Derived.Deep.QuietTactic
import Derived.BigQuiet
namespace Go.Proofs.Ytpmimngngehmlaa.F
open Go.ChangeShapes Go.WideShapes Go.ChangeAt Go.RowKit Base
theorem same_two6 {ba : Nat} {v u : Value} {l : List Pai} {w : World} (ha : OwnPai ba w v l) (hb : Pais 0 w u l) (hl : l.length ≤ 100000) : Calls Try.prog 21 #[v, u] w fun e w' => e = .returned (.bool true) ∧ Below w.heap.size w w' :=
  (same_ref v u l l w (ha.list (by omega)) hb hl).mono fun _ _ ⟨h, n, h2⟩ => ⟨by rw [h, (sameL_iff l l).2 rfl], by rw [h2]; exact below_drewN (Below.refl _ _) n⟩
def boxO (pv : Value) (root : Int) (vl : Value) : Obj := .cells #[pv, .int .i64 root, pv, vl] 31
theorem cellsO {w : World} {g : Nat} {pv vl : Value} {root : Int} (h : w.heap[g]? = some (boxO pv root vl)) : g < w.heap.size ∧ w.cell? ⟨g, 0, none⟩ = some pv ∧ w.cell? ⟨g, 1, none⟩ = some (.int .i64 root) ∧ w.cell? ⟨g, 2, none⟩ = some pv ∧ w.cell? ⟨g, 3, none⟩ = some vl := by
  refine ⟨heap_lt h, ?_⟩
  unfold boxO at h
  simp [World.cell?, h]
set_option maxHeartbeats 16000000 in
set_option maxRecDepth 100000 in
theorem pmtells {pv : Value} {o : Option Nat} {room : Nat} {zs : List Cel} {w : World} {t : Tre} {root : Int} {vl : Value} (kind from_ key val : Int) (hd : -9223372036854775808 ≤ val ∧ val ≤ 9223372036854775807) (h : ArV w pv o room zs) (ht : Tr zs t root) (hs : SortL t.list) (hsz : t.size < 65536) (hv : Pais 0 w vl t.list) :
    Calls Try.prog 17 #[.agg #[pv, .int .i64 root, pv, vl], .agg #[.int .i64 kind, .int .i64 from_, .int .i64 key, .int .i64 val]] w fun e w' => e = .returned (.bool true) ∧ Below w.heap.size w w' := by
  obtain ⟨a, rfl⟩ := h.ptr
  obtain ⟨p, c, rfl, _, _⟩ := hv.open_
  have H0 : Hid (Below w.heap.size w ((w.alloc (boxO (.pointer a) root (.slice p t.list.length c))).alloc (boxD6 kind from_ key val))) := Lib.hid (((Below.refl _ _).alloc (Nat.le_refl _) _).alloc (by simp) _)
  have HX : Hid (∀ X, Below ((w.alloc (boxO (.pointer a) root (.slice p t.list.length c))).alloc (boxD6 kind from_ key val)).heap.size ((w.alloc (boxO (.pointer a) root (.slice p t.list.length c))).alloc (boxD6 kind from_ key val)) X → ArV X (.pointer a) o room zs ∧ Pais 0 X (.slice p t.list.length c) t.list ∧ X.heap[w.heap.size]? = some (boxO (.pointer a) root (.slice p t.list.length c)) ∧ X.heap[w.heap.size + 1]? = some (boxD6 kind from_ key val)) := Lib.hid fun X hX =>
    ⟨(h.below H0.out).below hX, (hv.below H0.out).below hX, (hX.block _ (by simp; omega)).trans (heap_alloc_lt _ _ _ _ (heap_alloc_at _ _ _ rfl)), (hX.block _ (by simp)).trans (heap_alloc_at _ _ _ (by simp))⟩
  have HL := Lib.hid (link key 0 t hs)
  have HT := Lib.hid ht
  have HSZ := Lib.hid hsz
  have HLL := Lib.hid (Tre.list_len t)
  have HG1 : Hid (∀ X, Below ((w.alloc (boxO (.pointer a) root (.slice p t.list.length c))).alloc (boxD6 kind from_ key val)).heap.size ((w.alloc (boxO (.pointer a) root (.slice p t.list.length c))).alloc (boxD6 kind from_ key val)) X → Calls Try.prog 59 #[.agg #[.pointer a, .int .i64 root], .int .i64 key] X (IntBoolM (getL key t.list).1 (getL key t.list).2 X)) := Lib.hid fun X hX => by rw [← HL.out.2.2.2.1]; exact pmget key (HX.out X hX).1 HT.out
  have HG2 : Hid (∀ X, Below ((w.alloc (boxO (.pointer a) root (.slice p t.list.length c))).alloc (boxD6 kind from_ key val)).heap.size ((w.alloc (boxO (.pointer a) root (.slice p t.list.length c))).alloc (boxD6 kind from_ key val)) X → Calls Try.prog 62 #[.slice p t.list.length c, .int .i64 key] X (IntBool (getL key t.list).1 (getL key t.list).2 X)) := Lib.hid fun X hX => get_ref _ _ _ _ (HX.out X hX).2.1 (by rw [HLL.out]; have := HSZ.out; omega)
  have HDK := Lib.hid hd
  clear h hv ht hs hsz hd
  generalize (getL key t.list).1 = gv at HG1 HG2
  generalize (getL key t.list).2 = gb at HG1 HG2
  go_enter Try.func17, Try.ntmps17
  go_wp2_with fail
  refine (HG1.out _ (Below.refl _ _)).mono ?_
  rintro e w1 ⟨rfl, hb⟩
  have B1 := Lib.hid hb
  clear hb HG1
  obtain ⟨hgx, x0, x1, x2, x3⟩ := cellsO (HX.out _ B1.out).2.2.1
  obtain ⟨hgy, y0, y1, y2, y3⟩ := cellsD6 (HX.out _ B1.out).2.2.2
  go_wp2_with fail
  refine (HG2.out _ B1.out).mono ?_
  rintro e w2 ⟨rfl, hb⟩
  have B2 := Lib.hid (B1.out.trans (hb.mono B1.out.size))
  clear hb HG2 B1 hgx hgy x0 x1 x2 x3 y0 y1 y2 y3
  obtain ⟨hgx, x0, x1, x2, x3⟩ := cellsO (HX.out _ B2.out).2.2.1
  obtain ⟨hgy, y0, y1, y2, y3⟩ := cellsD6 (HX.out _ B2.out).2.2.2
  have hAt := pmat val (HX.out _ B2.out).1 (t := t) (root := root) HT.out (by have := HSZ.out; omega) HDK.out
  obtain ⟨X0, hX0⟩ : ∃ X0, X0 = (w.alloc (boxO (.pointer a) root (.slice p t.list.length c))).alloc (boxD6 kind from_ key val) := ⟨_, rfl⟩
  rw [← hX0] at B2 HX H0
  clear hX0
  have HRK : Hid (∀ X, Below X0.heap.size X0 X → Calls Try.prog 25 #[.agg #[.pointer a, .int .i64 root], .int .i64 key] X (IntB (rankL key t.list : Int) X)) := Lib.hid fun X hX => by rw [← HL.out.2.2.2.2.1]; exact pmrank key (HX.out X hX).1 HT.out (by have := HSZ.out; omega)
  have HRR : Hid (∀ X, Below X0.heap.size X0 X → Calls Try.prog 63 #[.slice p t.list.length c, .int .i64 key] X (IntPost (rankL key t.list : Nat) X)) := Lib.hid fun X hX => rank_ref _ _ _ _ (HX.out X hX).2.1 (by rw [HLL.out]; have := HSZ.out; omega)
  have HLn : Hid (∀ X, Below X0.heap.size X0 X → Calls Try.prog 23 #[.agg #[.pointer a, .int .i64 root]] X (IntB (t.list.length : Int) X)) := Lib.hid fun X hX => by rw [HLL.out]; exact pmlen (HX.out X hX).1 HT.out
  have HLS : Hid (∀ X, Below X0.heap.size X0 X → Calls Try.prog 20 #[.agg #[.pointer a, .int .i64 root]] X (ListIs t.list X)) := Lib.hid fun X hX => pmlist (HX.out X hX).1 HT.out HSZ.out
  have HSM : Hid (∀ (X : World) (v : Value) (b : Nat), Below X0.heap.size X0 X → OwnPai b X v t.list → Calls Try.prog 21 #[v, .slice p t.list.length c] X fun e w' => e = .returned (.bool true) ∧ Below X.heap.size X w') := Lib.hid fun X v b hX ho => same_two6 ho (HX.out X hX).2.1 (by rw [HLL.out]; have := HSZ.out; omega)
  have HS : Hid (∀ X, Below X0.heap.size X0 X → (X.cell? ⟨w.heap.size, 0, none⟩ = some (.pointer a) ∧ X.cell? ⟨w.heap.size, 1, none⟩ = some (.int .i64 root) ∧ X.cell? ⟨w.heap.size, 2, none⟩ = some (.pointer a) ∧ X.cell? ⟨w.heap.size, 3, none⟩ = some (.slice p t.list.length c)) ∧ X.cell? ⟨w.heap.size + 1, 2, none⟩ = some (.int .i64 key)) := Lib.hid fun X hX => ⟨(cellsO (HX.out X hX).2.2.1).2, (cellsD6 (HX.out X hX).2.2.2).2.2.2.1⟩
  generalize rankL key t.list = rk at HRK HRR
  rcases (show val < 0 ∨ (t.list.length : Int) ≤ val ∨ (0 ≤ val ∧ val < (t.list.length : Int)) by omega) with h1 | h1 | h1
  · rw [(nth_list t val).2 (by omega)] at hAt
    simp only [Pai.zero] at hAt
    have HAT := Lib.hid hAt
    have hdv : decide ((0 : Int) ≤ val) = false := by rw [decide_eq_false_iff_not]; omega
    clear hAt
    go_wp2_with fail
    refine HAT.out.mono ?_
    rintro e wb ⟨rfl, hb⟩
    have BB := Lib.hid (B2.out.trans (hb.mono B2.out.size))
    clear hb HAT B2 hgx hgy x0 x1 x2 x3 y0 y1 y2 y3
    have HZ : Hid (Below X0.heap.size X0 (wb.alloc (.cells #[.int .i64 0, .int .i64 0] 52))) := Lib.hid (BB.out.alloc BB.out.size _)
    obtain ⟨hgx, x0, x1, x2, x3⟩ := cellsO (HX.out _ BB.out).2.2.1
    obtain ⟨hgy, y0, y1, y2, y3⟩ := cellsD6 (HX.out _ BB.out).2.2.2
    have hxe := fun wx => ne_pai Pai.zero Pai.zero wx
    simp only [Pai.beq_self, Bool.not_true, Pai.zero] at hxe
    clear BB
    go_wp2_with fail
    go_quiet (fail)
    have BB := Lib.hid (HZ.out.trans ((below_drewN (Below.refl _ _) nq).mono HZ.out.size))
    clear HZ hxe
    go_upto_region 6 with fail
    obtain ⟨wy, hwy⟩ : ∃ wy, wy = (wb.alloc (.cells #[.int .i64 0, .int .i64 0] 52)).drewN nq := ⟨_, rfl⟩
    rw [← hwy] at BB
    rw [← hwy]
    clear hwy x0 x1 x2 x3 y0 y1 y2 y3 hgx hgy
    have BB0 : Hid (Below X0.heap.size X0 wy.drew) := Lib.hid BB.out.drew
    refine wp_region_held_drew (S := (fun X => (X.cell? ⟨w.heap.size, 0, none⟩ = some (.pointer a) ∧ X.cell? ⟨w.heap.size, 1, none⟩ = some (.int .i64 root) ∧ X.cell? ⟨w.heap.size, 2, none⟩ = some (.pointer a) ∧ X.cell? ⟨w.heap.size, 3, none⟩ = some (.slice p t.list.length c)) ∧ X.cell? ⟨w.heap.size + 1, 2, none⟩ = some (.int .i64 key))) (by as_aux_lemma => kernel_rfl) (HS.out _ BB0.out) (fun hHeld0 => ?_)
    refine wpAnyH_take (i := 0) (v := ?_) rfl (by as_aux_lemma => kernel_rfl) (by as_aux_lemma => kernel_rfl) (by as_aux_lemma => kernel_rfl) (fun _ _ _ h => h) (Or.inl ⟨by rfl, ?ymtb1⟩) (by assumption) ?qmtb1
    case ymtb1 => (intro wz hSw; (try dsimp only at hSw); go_simp <;> with_reducible rfl)
    try simp only [Act.put, List.getElem_toArray, List.getElem_cons_zero, List.setIfInBounds_toArray, List.set_cons_zero, List.set_cons_succ]
    refine wpAnyH_take (i := 1) (v := ?_) rfl (by as_aux_lemma => kernel_rfl) (by as_aux_lemma => kernel_rfl) (by as_aux_lemma => kernel_rfl) (fun _ _ _ h => h) (Or.inl ⟨by rfl, ?ymtb2⟩) (by assumption) ?qmtb2
    case ymtb2 => (intro wz hSw; (try dsimp only at hSw); go_simp <;> with_reducible rfl)
    try simp only [Act.put, List.getElem_toArray, List.getElem_cons_zero, List.getElem_cons_succ, List.setIfInBounds_toArray, List.set_cons_zero, List.set_cons_succ]
    refine wpAnyH_take (i := 2) (v := ?_) rfl (by as_aux_lemma => kernel_rfl) (by as_aux_lemma => kernel_rfl) (by as_aux_lemma => kernel_rfl) (fun _ _ _ h => h) (Or.inl ⟨by rfl, ?ymtb3⟩) (by assumption) ?qmtb3
    case ymtb3 => (intro wz hSw; (try dsimp only at hSw); go_simp <;> with_reducible rfl)
    try simp only [Act.put, List.getElem_toArray, List.getElem_cons_zero, List.getElem_cons_succ, List.setIfInBounds_toArray, List.set_cons_zero, List.set_cons_succ]
    refine wpAnyH_take (i := 3) (v := ?_) rfl (by as_aux_lemma => kernel_rfl) (by as_aux_lemma => kernel_rfl) (by as_aux_lemma => kernel_rfl) (fun _ _ _ h => h) (Or.inl ⟨by rfl, ?ymtb4⟩) (by assumption) ?qmtb4
    case ymtb4 => (intro wz hSw; (try dsimp only at hSw); go_simp <;> with_reducible rfl)
    try simp only [Act.put, List.getElem_toArray, List.getElem_cons_zero, List.getElem_cons_succ, List.setIfInBounds_toArray, List.set_cons_zero, List.set_cons_succ]
    refine wpAnyH_take (i := 5) (v := ?_) rfl (by as_aux_lemma => kernel_rfl) (by as_aux_lemma => kernel_rfl) (by as_aux_lemma => kernel_rfl) (fun _ _ _ h => h) (Or.inl ⟨by rfl, ?ymtb5⟩) (by assumption) ?qmtb5
    case ymtb5 => (intro wz hSw; (try dsimp only at hSw); go_simp <;> with_reducible rfl)
    try simp only [Act.put, List.getElem_toArray, List.getElem_cons_zero, List.getElem_cons_succ, List.setIfInBounds_toArray, List.set_cons_zero, List.set_cons_succ]
    refine wpAnyH_take (i := 6) (v := ?_) rfl (by as_aux_lemma => kernel_rfl) (by as_aux_lemma => kernel_rfl) (by as_aux_lemma => kernel_rfl) (fun _ _ _ h => h) (Or.inl ⟨by rfl, ?ymtb6⟩) (by assumption) ?qmtb6
    case ymtb6 => (intro wz hSw; (try dsimp only at hSw); go_simp <;> with_reducible rfl)
    try simp only [Act.put, List.getElem_toArray, List.getElem_cons_zero, List.getElem_cons_succ, List.setIfInBounds_toArray, List.set_cons_zero, List.set_cons_succ]
    refine wpAnyH_take (i := 7) (v := ?_) rfl (by as_aux_lemma => kernel_rfl) (by as_aux_lemma => kernel_rfl) (by as_aux_lemma => kernel_rfl) (fun _ _ _ h => h) (Or.inl ⟨by rfl, ?ymtb7⟩) (by assumption) ?qmtb7
    case ymtb7 => (intro wz hSw; (try dsimp only at hSw); go_simp <;> with_reducible rfl)
    try simp only [Act.put, List.getElem_toArray, List.getElem_cons_zero, List.getElem_cons_succ, List.setIfInBounds_toArray, List.set_cons_zero, List.set_cons_succ]
    refine wpAnyH_take (i := 8) (v := ?_) rfl (by as_aux_lemma => kernel_rfl) (by as_aux_lemma => kernel_rfl) (by as_aux_lemma => kernel_rfl) (fun _ _ _ h => h) (Or.inl ⟨by rfl, ?ymtb8⟩) (by assumption) ?qmtb8
    case ymtb8 => (intro wz hSw; (try dsimp only at hSw); go_simp <;> with_reducible rfl)
    try simp only [Act.put, List.getElem_toArray, List.getElem_cons_zero, List.getElem_cons_succ, List.setIfInBounds_toArray, List.set_cons_zero, List.set_cons_succ]
    refine wpAnyH_ready (rs := [4]) (by as_aux_lemma => kernel_rfl) (by simp) ?_
    refine AllReadyH.cons rfl (fun K hK => ?_) AllReadyH.nil
    go_simp
    refine (HRK.out _ BB0.out).mono ?_
    rintro e u9 ⟨rfl, hb⟩
    have CB9 := Lib.hid (Below.trans (show Below X0.heap.size X0 _ from BB0.out) (hb.mono (show X0.heap.size ≤ _ from Below.size BB0.out)))
    clear hb
    refine hK.out _ _ ((HS.out _ CB9.out)) (fun hHeld9 => ?_)
    clear hK K
    try simp only [Act.put, List.getElem_toArray, List.getElem_cons_zero, List.getElem_cons_succ, List.setIfInBounds_toArray, List.set_cons_zero, List.set_cons_succ]
    refine wpAnyH_ready (rs := [9]) (by as_aux_lemma => kernel_rfl) (by simp) ?_
    refine AllReadyH.cons rfl (fun K hK => ?_) AllReadyH.nil
    go_simp
    refine (HRR.out _ CB9.out).mono ?_
    rintro e u10 ⟨rfl, hb⟩
    have CB10 := Lib.hid (Below.trans (show Below X0.heap.size X0 _ from CB9.out) (hb.mono (show X0.heap.size ≤ _ from Below.size CB9.out)))
    clear hb
    refine hK.out _ _ ((HS.out _ CB10.out)) (fun hHeld10 => ?_)
    clear hK K
    try simp only [Act.put, List.getElem_toArray, List.getElem_cons_zero, List.getElem_cons_succ, List.setIfInBounds_toArray, List.set_cons_zero, List.set_cons_succ]
    refine wpAnyH_take (i := 10) (v := ?_) rfl (by as_aux_lemma => kernel_rfl) (by as_aux_lemma => kernel_rfl) (by as_aux_lemma => kernel_rfl) (fun _ _ _ h => h) (Or.inl ⟨by rfl, ?ymtb11⟩) (by assumption) ?qmtb11
    case ymtb11 => (intro wz hSw; (try dsimp only at hSw); go_simp <;> with_reducible rfl)
    try simp only [Act.put, List.getElem_toArray, List.getElem_cons_zero, List.getElem_cons_succ, List.setIfInBounds_toArray, List.set_cons_zero, List.set_cons_succ]
    refine wpAnyH_take (i := 11) (v := ?_) rfl (by as_aux_lemma => kernel_rfl) (by as_aux_lemma => kernel_rfl) (by as_aux_lemma => kernel_rfl) (fun _ _ _ h => h) (Or.inl ⟨by rfl, ?ymtb12⟩) (by assumption) ?qmtb12
    case ymtb12 => (intro wz hSw; (try dsimp only at hSw); go_simp <;> with_reducible rfl)
    try simp only [Act.put, List.getElem_toArray, List.getElem_cons_zero, List.getElem_cons_succ, List.setIfInBounds_toArray, List.set_cons_zero, List.set_cons_succ]
    refine wpAnyH_take (i := 12) (v := ?_) rfl (by as_aux_lemma => kernel_rfl) (by as_aux_lemma => kernel_rfl) (by as_aux_lemma => kernel_rfl) (fun _ _ _ h => h) (Or.inl ⟨by rfl, ?ymtb13⟩) (by assumption) ?qmtb13
    case ymtb13 => (intro wz hSw; (try dsimp only at hSw); go_simp <;> with_reducible rfl)
    try simp only [Act.put, List.getElem_toArray, List.getElem_cons_zero, List.getElem_cons_succ, List.setIfInBounds_toArray, List.set_cons_zero, List.set_cons_succ]
    refine wpAnyH_take (i := 13) (v := ?_) rfl (by as_aux_lemma => kernel_rfl) (by as_aux_lemma => kernel_rfl) (by as_aux_lemma => kernel_rfl) (fun _ _ _ h => h) (Or.inl ⟨by rfl, ?ymtb14⟩) (by assumption) ?qmtb14
    case ymtb14 => (intro wz hSw; (try dsimp only at hSw); go_simp <;> with_reducible rfl)
    try simp only [Act.put, List.getElem_toArray, List.getElem_cons_zero, List.getElem_cons_succ, List.setIfInBounds_toArray, List.set_cons_zero, List.set_cons_succ]
    refine wpAnyH_take (i := 15) (v := ?_) rfl (by as_aux_lemma => kernel_rfl) (by as_aux_lemma => kernel_rfl) (by as_aux_lemma => kernel_rfl) (fun _ _ _ h => h) (Or.inl ⟨by rfl, ?ymtb15⟩) (by assumption) ?qmtb15
    case ymtb15 => (intro wz hSw; (try dsimp only at hSw); go_simp <;> with_reducible rfl)
    try simp only [Act.put, List.getElem_toArray, List.getElem_cons_zero, List.getElem_cons_succ, List.setIfInBounds_toArray, List.set_cons_zero, List.set_cons_succ]
    refine wpAnyH_take (i := 16) (v := ?_) rfl (by as_aux_lemma => kernel_rfl) (by as_aux_lemma => kernel_rfl) (by as_aux_lemma => kernel_rfl) (fun _ _ _ h => h) (Or.inl ⟨by rfl, ?ymtb16⟩) (by assumption) ?qmtb16
    case ymtb16 => (intro wz hSw; (try dsimp only at hSw); go_simp <;> with_reducible rfl)
    try simp only [Act.put, List.getElem_toArray, List.getElem_cons_zero, List.getElem_cons_succ, List.setIfInBounds_toArray, List.set_cons_zero, List.set_cons_succ]
    refine wpAnyH_take (i := 17) (v := ?_) rfl (by as_aux_lemma => kernel_rfl) (by as_aux_lemma => kernel_rfl) (by as_aux_lemma => kernel_rfl) (fun _ _ _ h => h) (Or.inl ⟨by rfl, ?ymtb17⟩) (by assumption) ?qmtb17
    case ymtb17 => (intro wz hSw; (try dsimp only at hSw); go_simp <;> with_reducible rfl)
    try simp only [Act.put, List.getElem_toArray, List.getElem_cons_zero, List.getElem_cons_succ, List.setIfInBounds_toArray, List.set_cons_zero, List.set_cons_succ]
    refine wpAnyH_ready (rs := [14]) (by as_aux_lemma => kernel_rfl) (by simp) ?_
    refine AllReadyH.cons rfl (fun K hK => ?_) AllReadyH.nil
    go_simp
    refine (HLn.out _ CB10.out).mono ?_
    rintro e u18 ⟨rfl, hb⟩
    have CB18 := Lib.hid (Below.trans (show Below X0.heap.size X0 _ from CB10.out) (hb.mono (show X0.heap.size ≤ _ from Below.size CB10.out)))
    clear hb
    refine hK.out _ _ ((HS.out _ CB18.out)) (fun hHeld18 => ?_)
    clear hK K
    try simp only [Act.put, List.getElem_toArray, List.getElem_cons_zero, List.getElem_cons_succ, List.setIfInBounds_toArray, List.set_cons_zero, List.set_cons_succ]
    refine wpAnyH_take (i := 18) (v := ?_) rfl (by as_aux_lemma => kernel_rfl) (by as_aux_lemma => kernel_rfl) (by as_aux_lemma => kernel_rfl) (fun _ _ _ h => h) (Or.inl ⟨by rfl, ?ymtb19⟩) (by assumption) ?qmtb19
    case ymtb19 => (intro wz hSw; (try dsimp only at hSw); go_simp <;> with_reducible rfl)
    try simp only [Act.put, List.getElem_toArray, List.getElem_cons_zero, List.getElem_cons_succ, List.setIfInBounds_toArray, List.set_cons_zero, List.set_cons_succ]
    refine wpAnyH_take (i := 19) (v := ?_) rfl (by as_aux_lemma => kernel_rfl) (by as_aux_lemma => kernel_rfl) (by as_aux_lemma => kernel_rfl) (fun _ _ _ h => h) (Or.inl ⟨by rfl, ?ymtb20⟩) (by assumption) ?qmtb20
    case ymtb20 => (intro wz hSw; (try dsimp only at hSw); go_simp <;> with_reducible rfl)
    try simp only [Act.put, List.getElem_toArray, List.getElem_cons_zero, List.getElem_cons_succ, List.setIfInBounds_toArray, List.set_cons_zero, List.set_cons_succ]
    refine wpAnyH_take (i := 20) (v := ?_) rfl (by as_aux_lemma => kernel_rfl) (by as_aux_lemma => kernel_rfl) (by as_aux_lemma => kernel_rfl) (fun _ _ _ h => h) (Or.inl ⟨by rfl, ?ymtb21⟩) (by assumption) ?qmtb21
    case ymtb21 => (intro wz hSw; (try dsimp only at hSw); go_simp <;> with_reducible rfl)
    try simp only [Act.put, List.getElem_toArray, List.getElem_cons_zero, List.getElem_cons_succ, List.setIfInBounds_toArray, List.set_cons_zero, List.set_cons_succ]
    refine wpAnyH_take (i := 21) (v := ?_) rfl (by as_aux_lemma => kernel_rfl) (by as_aux_lemma => kernel_rfl) (by as_aux_lemma => kernel_rfl) (fun _ _ _ h => h) (Or.inl ⟨by rfl, ?ymtb22⟩) (by assumption) ?qmtb22
    case ymtb22 => (intro wz hSw; (try dsimp only at hSw); go_simp <;> with_reducible rfl)
    try simp only [Act.put, List.getElem_toArray, List.getElem_cons_zero, List.getElem_cons_succ, List.setIfInBounds_toArray, List.set_cons_zero, List.set_cons_succ]
    refine wpAnyH_take (i := 22) (v := ?_) rfl (by as_aux_lemma => kernel_rfl) (by as_aux_lemma => kernel_rfl) (by as_aux_lemma => kernel_rfl) (fun _ _ _ h => h) (Or.inl ⟨by rfl, ?ymtb23⟩) (by assumption) ?qmtb23
    case ymtb23 => (intro wz hSw; (try dsimp only at hSw); go_simp <;> with_reducible rfl)
    try simp only [Act.put, List.getElem_toArray, List.getElem_cons_zero, List.getElem_cons_succ, List.setIfInBounds_toArray, List.set_cons_zero, List.set_cons_succ]
    refine wpAnyH_take (i := 24) (v := ?_) rfl (by as_aux_lemma => kernel_rfl) (by as_aux_lemma => kernel_rfl) (by as_aux_lemma => kernel_rfl) (fun _ _ _ h => h) (Or.inl ⟨by rfl, ?ymtb24⟩) (by assumption) ?qmtb24
    case ymtb24 => (intro wz hSw; (try dsimp only at hSw); go_simp <;> with_reducible rfl)
    try simp only [Act.put, List.getElem_toArray, List.getElem_cons_zero, List.getElem_cons_succ, List.setIfInBounds_toArray, List.set_cons_zero, List.set_cons_succ]
    refine wpAnyH_take (i := 25) (v := ?_) rfl (by as_aux_lemma => kernel_rfl) (by as_aux_lemma => kernel_rfl) (by as_aux_lemma => kernel_rfl) (fun _ _ _ h => h) (Or.inl ⟨by rfl, ?ymtb25⟩) (by assumption) ?qmtb25
    case ymtb25 => (intro wz hSw; (try dsimp only at hSw); go_simp <;> with_reducible rfl)
    try simp only [Act.put, List.getElem_toArray, List.getElem_cons_zero, List.getElem_cons_succ, List.setIfInBounds_toArray, List.set_cons_zero, List.set_cons_succ]
    refine wpAnyH_ready (rs := [23]) (by as_aux_lemma => kernel_rfl) (by simp) ?_
    refine AllReadyH.cons rfl (fun K hK => ?_) AllReadyH.nil
    go_simp
    refine (HLS.out _ CB18.out).mono ?_
    rintro e u26 ⟨vl, rfl, hol, hb⟩
    have HOL := Lib.hid hol
    have CB26 := Lib.hid (Below.trans (show Below X0.heap.size X0 _ from CB18.out) (hb.mono (show X0.heap.size ≤ _ from Below.size CB18.out)))
    clear hb hol
    refine hK.out _ _ ((HS.out _ CB26.out)) (fun hHeld26 => ?_)
    clear hK K
    try simp only [Act.put, List.getElem_toArray, List.getElem_cons_zero, List.getElem_cons_succ, List.setIfInBounds_toArray, List.set_cons_zero, List.set_cons_succ]
    refine wpAnyH_ready (rs := [26]) (by as_aux_lemma => kernel_rfl) (by simp) ?_
    refine AllReadyH.cons rfl (fun K hK => ?_) AllReadyH.nil
    go_simp
    refine (HSM.out _ _ _ CB26.out HOL.out).mono ?_
    rintro e u27 ⟨rfl, hb⟩
    have CB27 := Lib.hid (Below.trans (show Below X0.heap.size X0 _ from CB26.out) (hb.mono (show X0.heap.size ≤ _ from Below.size CB26.out)))
    clear hb HOL
    refine hK.out _ _ ((HS.out _ CB27.out)) (fun hHeld27 => ?_)
    clear hK K
    try simp only [Act.put, List.getElem_toArray, List.getElem_cons_zero, List.getElem_cons_succ, List.setIfInBounds_toArray, List.set_cons_zero, List.set_cons_succ]
    refine wpAnyH_take (i := 27) (v := ?_) rfl (by as_aux_lemma => kernel_rfl) (by as_aux_lemma => kernel_rfl) (by as_aux_lemma => kernel_rfl) (fun _ _ _ h => h) (Or.inl ⟨by rfl, ?ymtb28⟩) (by assumption) ?qmtb28
    case ymtb28 => (intro wz hSw; (try dsimp only at hSw); go_simp <;> with_reducible rfl)
    try simp only [Act.put, List.getElem_toArray, List.getElem_cons_zero, List.getElem_cons_succ, List.setIfInBounds_toArray, List.set_cons_zero, List.set_cons_succ]
    refine wpAnyH_take (i := 28) (v := ?_) rfl (by as_aux_lemma => kernel_rfl) (by as_aux_lemma => kernel_rfl) (by as_aux_lemma => kernel_rfl) (fun _ _ _ h => h) (Or.inl ⟨by rfl, ?ymtb29⟩) (by assumption) ?qmtb29
    case ymtb29 => (intro wz hSw; (try dsimp only at hSw); go_simp <;> with_reducible rfl)
    try simp only [Act.put, List.getElem_toArray, List.getElem_cons_zero, List.getElem_cons_succ, List.setIfInBounds_toArray, List.set_cons_zero, List.set_cons_succ]
    refine wpAnyH_done (by as_aux_lemma => kernel_rfl) ?_ _
    have BF := Lib.hid (H0.out.trans (Below.mono CB27.out H0.out.size))
    go_wp2_with fail
    go_ret
    exact ⟨rfl, BF.out⟩
  · rw [(nth_list t val).2 (by have := HLL.out; omega)] at hAt
    simp only [Pai.zero] at hAt
    have HAT := Lib.hid hAt
    have h2 : (0 : Int) ≤ val := by omega
    have hdv : decide (val < (t.list.length : Int)) = false := by rw [decide_eq_false_iff_not]; omega
    clear hAt
    go_wp2_with fail
    refine HAT.out.mono ?_
    rintro e wb ⟨rfl, hb⟩
    have BB := Lib.hid (B2.out.trans (hb.mono B2.out.size))
    clear hb HAT B2 hgx hgy x0 x1 x2 x3 y0 y1 y2 y3
    have HZ : Hid (Below X0.heap.size X0 (wb.alloc (.cells #[.int .i64 0, .int .i64 0] 52))) := Lib.hid (BB.out.alloc BB.out.size _)
    obtain ⟨hgx, x0, x1, x2, x3⟩ := cellsO (HX.out _ BB.out).2.2.1
    obtain ⟨hgy, y0, y1, y2, y3⟩ := cellsD6 (HX.out _ BB.out).2.2.2
    have hxe := fun wx => ne_pai Pai.zero Pai.zero wx
    simp only [Pai.beq_self, Bool.not_true, Pai.zero] at hxe
    clear BB
    go_wp2_with fail
    go_quiet (fail)
    have BB := Lib.hid (HZ.out.trans ((below_drewN (Below.refl _ _) nq).mono HZ.out.size))
    clear HZ hxe
    go_upto_region 6 with fail
    obtain ⟨wy, hwy⟩ : ∃ wy, wy = (wb.alloc (.cells #[.int .i64 0, .int .i64 0] 52)).drewN nq := ⟨_, rfl⟩
    rw [← hwy] at BB
    rw [← hwy]
    clear hwy x0 x1 x2 x3 y0 y1 y2 y3 hgx hgy
    have BB0 : Hid (Below X0.heap.size X0 wy.drew) := Lib.hid BB.out.drew
    refine wp_region_held_drew (S := (fun X => (X.cell? ⟨w.heap.size, 0, none⟩ = some (.pointer a) ∧ X.cell? ⟨w.heap.size, 1, none⟩ = some (.int .i64 root) ∧ X.cell? ⟨w.heap.size, 2, none⟩ = some (.pointer a) ∧ X.cell? ⟨w.heap.size, 3, none⟩ = some (.slice p t.list.length c)) ∧ X.cell? ⟨w.heap.size + 1, 2, none⟩ = some (.int .i64 key))) (by as_aux_lemma => kernel_rfl) (HS.out _ BB0.out) (fun hHeld0 => ?_)
    refine wpAnyH_take (i := 0) (v := ?_) rfl (by as_aux_lemma => kernel_rfl) (by as_aux_lemma => kernel_rfl) (by as_aux_lemma => kernel_rfl) (fun _ _ _ h => h) (Or.inl ⟨by rfl, ?ymtc1⟩) (by assumption) ?qmtc1
    case ymtc1 => (intro wz hSw; (try dsimp only at hSw); go_simp <;> with_reducible rfl)
    try simp only [Act.put, List.getElem_toArray, List.getElem_cons_zero, List.setIfInBounds_toArray, List.set_cons_zero, List.set_cons_succ]
    refine wpAnyH_take (i := 1) (v := ?_) rfl (by as_aux_lemma => kernel_rfl) (by as_aux_lemma => kernel_rfl) (by as_aux_lemma => kernel_rfl) (fun _ _ _ h => h) (Or.inl ⟨by rfl, ?ymtc2⟩) (by assumption) ?qmtc2
    case ymtc2 => (intro wz hSw; (try dsimp only at hSw); go_simp <;> with_reducible rfl)
    try simp only [Act.put, List.getElem_toArray, List.getElem_cons_zero, List.getElem_cons_succ, List.setIfInBounds_toArray, List.set_cons_zero, List.set_cons_succ]
    refine wpAnyH_take (i := 2) (v := ?_) rfl (by as_aux_lemma => kernel_rfl) (by as_aux_lemma => kernel_rfl) (by as_aux_lemma => kernel_rfl) (fun _ _ _ h => h) (Or.inl ⟨by rfl, ?ymtc3⟩) (by assumption) ?qmtc3
    case ymtc3 => (intro wz hSw; (try dsimp only at hSw); go_simp <;> with_reducible rfl)
    try simp only [Act.put, List.getElem_toArray, List.getElem_cons_zero, List.getElem_cons_succ, List.setIfInBounds_toArray, List.set_cons_zero, List.set_cons_succ]
    refine wpAnyH_take (i := 3) (v := ?_) rfl (by as_aux_lemma => kernel_rfl) (by as_aux_lemma => kernel_rfl) (by as_aux_lemma => kernel_rfl) (fun _ _ _ h => h) (Or.inl ⟨by rfl, ?ymtc4⟩) (by assumption) ?qmtc4
    case ymtc4 => (intro wz hSw; (try dsimp only at hSw); go_simp <;> with_reducible rfl)
    try simp only [Act.put, List.getElem_toArray, List.getElem_cons_zero, List.getElem_cons_succ, List.setIfInBounds_toArray, List.set_cons_zero, List.set_cons_succ]
    refine wpAnyH_take (i := 5) (v := ?_) rfl (by as_aux_lemma => kernel_rfl) (by as_aux_lemma => kernel_rfl) (by as_aux_lemma => kernel_rfl) (fun _ _ _ h => h) (Or.inl ⟨by rfl, ?ymtc5⟩) (by assumption) ?qmtc5
    case ymtc5 => (intro wz hSw; (try dsimp only at hSw); go_simp <;> with_reducible rfl)
    try simp only [Act.put, List.getElem_toArray, List.getElem_cons_zero, List.getElem_cons_succ, List.setIfInBounds_toArray, List.set_cons_zero, List.set_cons_succ]
    refine wpAnyH_take (i := 6) (v := ?_) rfl (by as_aux_lemma => kernel_rfl) (by as_aux_lemma => kernel_rfl) (by as_aux_lemma => kernel_rfl) (fun _ _ _ h => h) (Or.inl ⟨by rfl, ?ymtc6⟩) (by assumption) ?qmtc6
    case ymtc6 => (intro wz hSw; (try dsimp only at hSw); go_simp <;> with_reducible rfl)
    try simp only [Act.put, List.getElem_toArray, List.getElem_cons_zero, List.getElem_cons_succ, List.setIfInBounds_toArray, List.set_cons_zero, List.set_cons_succ]
    refine wpAnyH_take (i := 7) (v := ?_) rfl (by as_aux_lemma => kernel_rfl) (by as_aux_lemma => kernel_rfl) (by as_aux_lemma => kernel_rfl) (fun _ _ _ h => h) (Or.inl ⟨by rfl, ?ymtc7⟩) (by assumption) ?qmtc7
    case ymtc7 => (intro wz hSw; (try dsimp only at hSw); go_simp <;> with_reducible rfl)
    try simp only [Act.put, List.getElem_toArray, List.getElem_cons_zero, List.getElem_cons_succ, List.setIfInBounds_toArray, List.set_cons_zero, List.set_cons_succ]
    refine wpAnyH_take (i := 8) (v := ?_) rfl (by as_aux_lemma => kernel_rfl) (by as_aux_lemma => kernel_rfl) (by as_aux_lemma => kernel_rfl) (fun _ _ _ h => h) (Or.inl ⟨by rfl, ?ymtc8⟩) (by assumption) ?qmtc8
    case ymtc8 => (intro wz hSw; (try dsimp only at hSw); go_simp <;> with_reducible rfl)
    try simp only [Act.put, List.getElem_toArray, List.getElem_cons_zero, List.getElem_cons_succ, List.setIfInBounds_toArray, List.set_cons_zero, List.set_cons_succ]
    refine wpAnyH_ready (rs := [4]) (by as_aux_lemma => kernel_rfl) (by simp) ?_
    refine AllReadyH.cons rfl (fun K hK => ?_) AllReadyH.nil
    go_simp
    refine (HRK.out _ BB0.out).mono ?_
    rintro e u9 ⟨rfl, hb⟩
    have CB9 := Lib.hid (Below.trans (show Below X0.heap.size X0 _ from BB0.out) (hb.mono (show X0.heap.size ≤ _ from Below.size BB0.out)))
    clear hb
    refine hK.out _ _ ((HS.out _ CB9.out)) (fun hHeld9 => ?_)
    clear hK K
    try simp only [Act.put, List.getElem_toArray, List.getElem_cons_zero, List.getElem_cons_succ, List.setIfInBounds_toArray, List.set_cons_zero, List.set_cons_succ]
    refine wpAnyH_ready (rs := [9]) (by as_aux_lemma => kernel_rfl) (by simp) ?_
    refine AllReadyH.cons rfl (fun K hK => ?_) AllReadyH.nil
    go_simp
    refine (HRR.out _ CB9.out).mono ?_
    rintro e u10 ⟨rfl, hb⟩
    have CB10 := Lib.hid (Below.trans (show Below X0.heap.size X0 _ from CB9.out) (hb.mono (show X0.heap.size ≤ _ from Below.size CB9.out)))
    clear hb
    refine hK.out _ _ ((HS.out _ CB10.out)) (fun hHeld10 => ?_)
    clear hK K
    try simp only [Act.put, List.getElem_toArray, List.getElem_cons_zero, List.getElem_cons_succ, List.setIfInBounds_toArray, List.set_cons_zero, List.set_cons_succ]
    refine wpAnyH_take (i := 10) (v := ?_) rfl (by as_aux_lemma => kernel_rfl) (by as_aux_lemma => kernel_rfl) (by as_aux_lemma => kernel_rfl) (fun _ _ _ h => h) (Or.inl ⟨by rfl, ?ymtc11⟩) (by assumption) ?qmtc11
    case ymtc11 => (intro wz hSw; (try dsimp only at hSw); go_simp <;> with_reducible rfl)
    try simp only [Act.put, List.getElem_toArray, List.getElem_cons_zero, List.getElem_cons_succ, List.setIfInBounds_toArray, List.set_cons_zero, List.set_cons_succ]
    refine wpAnyH_take (i := 11) (v := ?_) rfl (by as_aux_lemma => kernel_rfl) (by as_aux_lemma => kernel_rfl) (by as_aux_lemma => kernel_rfl) (fun _ _ _ h => h) (Or.inl ⟨by rfl, ?ymtc12⟩) (by assumption) ?qmtc12
    case ymtc12 => (intro wz hSw; (try dsimp only at hSw); go_simp <;> with_reducible rfl)
    try simp only [Act.put, List.getElem_toArray, List.getElem_cons_zero, List.getElem_cons_succ, List.setIfInBounds_toArray, List.set_cons_zero, List.set_cons_succ]
    refine wpAnyH_take (i := 12) (v := ?_) rfl (by as_aux_lemma => kernel_rfl) (by as_aux_lemma => kernel_rfl) (by as_aux_lemma => kernel_rfl) (fun _ _ _ h => h) (Or.inl ⟨by rfl, ?ymtc13⟩) (by assumption) ?qmtc13
    case ymtc13 => (intro wz hSw; (try dsimp only at hSw); go_simp <;> with_reducible rfl)
    try simp only [Act.put, List.getElem_toArray, List.getElem_cons_zero, List.getElem_cons_succ, List.setIfInBounds_toArray, List.set_cons_zero, List.set_cons_succ]
    refine wpAnyH_take (i := 13) (v := ?_) rfl (by as_aux_lemma => kernel_rfl) (by as_aux_lemma => kernel_rfl) (by as_aux_lemma => kernel_rfl) (fun _ _ _ h => h) (Or.inl ⟨by rfl, ?ymtc14⟩) (by assumption) ?qmtc14
    case ymtc14 => (intro wz hSw; (try dsimp only at hSw); go_simp <;> with_reducible rfl)
    try simp only [Act.put, List.getElem_toArray, List.getElem_cons_zero, List.getElem_cons_succ, List.setIfInBounds_toArray, List.set_cons_zero, List.set_cons_succ]
    refine wpAnyH_take (i := 15) (v := ?_) rfl (by as_aux_lemma => kernel_rfl) (by as_aux_lemma => kernel_rfl) (by as_aux_lemma => kernel_rfl) (fun _ _ _ h => h) (Or.inl ⟨by rfl, ?ymtc15⟩) (by assumption) ?qmtc15
    case ymtc15 => (intro wz hSw; (try dsimp only at hSw); go_simp <;> with_reducible rfl)
    try simp only [Act.put, List.getElem_toArray, List.getElem_cons_zero, List.getElem_cons_succ, List.setIfInBounds_toArray, List.set_cons_zero, List.set_cons_succ]
    refine wpAnyH_take (i := 16) (v := ?_) rfl (by as_aux_lemma => kernel_rfl) (by as_aux_lemma => kernel_rfl) (by as_aux_lemma => kernel_rfl) (fun _ _ _ h => h) (Or.inl ⟨by rfl, ?ymtc16⟩) (by assumption) ?qmtc16
    case ymtc16 => (intro wz hSw; (try dsimp only at hSw); go_simp <;> with_reducible rfl)
    try simp only [Act.put, List.getElem_toArray, List.getElem_cons_zero, List.getElem_cons_succ, List.setIfInBounds_toArray, List.set_cons_zero, List.set_cons_succ]
    refine wpAnyH_take (i := 17) (v := ?_) rfl (by as_aux_lemma => kernel_rfl) (by as_aux_lemma => kernel_rfl) (by as_aux_lemma => kernel_rfl) (fun _ _ _ h => h) (Or.inl ⟨by rfl, ?ymtc17⟩) (by assumption) ?qmtc17
    case ymtc17 => (intro wz hSw; (try dsimp only at hSw); go_simp <;> with_reducible rfl)
    try simp only [Act.put, List.getElem_toArray, List.getElem_cons_zero, List.getElem_cons_succ, List.setIfInBounds_toArray, List.set_cons_zero, List.set_cons_succ]
    refine wpAnyH_ready (rs := [14]) (by as_aux_lemma => kernel_rfl) (by simp) ?_
    refine AllReadyH.cons rfl (fun K hK => ?_) AllReadyH.nil
    go_simp
    refine (HLn.out _ CB10.out).mono ?_
    rintro e u18 ⟨rfl, hb⟩
    have CB18 := Lib.hid (Below.trans (show Below X0.heap.size X0 _ from CB10.out) (hb.mono (show X0.heap.size ≤ _ from Below.size CB10.out)))
    clear hb
    refine hK.out _ _ ((HS.out _ CB18.out)) (fun hHeld18 => ?_)
    clear hK K
    try simp only [Act.put, List.getElem_toArray, List.getElem_cons_zero, List.getElem_cons_succ, List.setIfInBounds_toArray, List.set_cons_zero, List.set_cons_succ]
    refine wpAnyH_take (i := 18) (v := ?_) rfl (by as_aux_lemma => kernel_rfl) (by as_aux_lemma => kernel_rfl) (by as_aux_lemma => kernel_rfl) (fun _ _ _ h => h) (Or.inl ⟨by rfl, ?ymtc19⟩) (by assumption) ?qmtc19
    case ymtc19 => (intro wz hSw; (try dsimp only at hSw); go_simp <;> with_reducible rfl)
    try simp only [Act.put, List.getElem_toArray, List.getElem_cons_zero, List.getElem_cons_succ, List.setIfInBounds_toArray, List.set_cons_zero, List.set_cons_succ]
    refine wpAnyH_take (i := 19) (v := ?_) rfl (by as_aux_lemma => kernel_rfl) (by as_aux_lemma => kernel_rfl) (by as_aux_lemma => kernel_rfl) (fun _ _ _ h => h) (Or.inl ⟨by rfl, ?ymtc20⟩) (by assumption) ?qmtc20
    case ymtc20 => (intro wz hSw; (try dsimp only at hSw); go_simp <;> with_reducible rfl)
    try simp only [Act.put, List.getElem_toArray, List.getElem_cons_zero, List.getElem_cons_succ, List.setIfInBounds_toArray, List.set_cons_zero, List.set_cons_succ]
    refine wpAnyH_take (i := 20) (v := ?_) rfl (by as_aux_lemma => kernel_rfl) (by as_aux_lemma => kernel_rfl) (by as_aux_lemma => kernel_rfl) (fun _ _ _ h => h) (Or.inl ⟨by rfl, ?ymtc21⟩) (by assumption) ?qmtc21
    case ymtc21 => (intro wz hSw; (try dsimp only at hSw); go_simp <;> with_reducible rfl)
    try simp only [Act.put, List.getElem_toArray, List.getElem_cons_zero, List.getElem_cons_succ, List.setIfInBounds_toArray, List.set_cons_zero, List.set_cons_succ]
    refine wpAnyH_take (i := 21) (v := ?_) rfl (by as_aux_lemma => kernel_rfl) (by as_aux_lemma => kernel_rfl) (by as_aux_lemma => kernel_rfl) (fun _ _ _ h => h) (Or.inl ⟨by rfl, ?ymtc22⟩) (by assumption) ?qmtc22
    case ymtc22 => (intro wz hSw; (try dsimp only at hSw); go_simp <;> with_reducible rfl)
    try simp only [Act.put, List.getElem_toArray, List.getElem_cons_zero, List.getElem_cons_succ, List.setIfInBounds_toArray, List.set_cons_zero, List.set_cons_succ]
    refine wpAnyH_take (i := 22) (v := ?_) rfl (by as_aux_lemma => kernel_rfl) (by as_aux_lemma => kernel_rfl) (by as_aux_lemma => kernel_rfl) (fun _ _ _ h => h) (Or.inl ⟨by rfl, ?ymtc23⟩) (by assumption) ?qmtc23
    case ymtc23 => (intro wz hSw; (try dsimp only at hSw); go_simp <;> with_reducible rfl)
    try simp only [Act.put, List.getElem_toArray, List.getElem_cons_zero, List.getElem_cons_succ, List.setIfInBounds_toArray, List.set_cons_zero, List.set_cons_succ]
    refine wpAnyH_take (i := 24) (v := ?_) rfl (by as_aux_lemma => kernel_rfl) (by as_aux_lemma => kernel_rfl) (by as_aux_lemma => kernel_rfl) (fun _ _ _ h => h) (Or.inl ⟨by rfl, ?ymtc24⟩) (by assumption) ?qmtc24
    case ymtc24 => (intro wz hSw; (try dsimp only at hSw); go_simp <;> with_reducible rfl)
    try simp only [Act.put, List.getElem_toArray, List.getElem_cons_zero, List.getElem_cons_succ, List.setIfInBounds_toArray, List.set_cons_zero, List.set_cons_succ]
    refine wpAnyH_take (i := 25) (v := ?_) rfl (by as_aux_lemma => kernel_rfl) (by as_aux_lemma => kernel_rfl) (by as_aux_lemma => kernel_rfl) (fun _ _ _ h => h) (Or.inl ⟨by rfl, ?ymtc25⟩) (by assumption) ?qmtc25
    case ymtc25 => (intro wz hSw; (try dsimp only at hSw); go_simp <;> with_reducible rfl)
    try simp only [Act.put, List.getElem_toArray, List.getElem_cons_zero, List.getElem_cons_succ, List.setIfInBounds_toArray, List.set_cons_zero, List.set_cons_succ]
    refine wpAnyH_ready (rs := [23]) (by as_aux_lemma => kernel_rfl) (by simp) ?_
    refine AllReadyH.cons rfl (fun K hK => ?_) AllReadyH.nil
    go_simp
    refine (HLS.out _ CB18.out).mono ?_
    rintro e u26 ⟨vl, rfl, hol, hb⟩
    have HOL := Lib.hid hol
    have CB26 := Lib.hid (Below.trans (show Below X0.heap.size X0 _ from CB18.out) (hb.mono (show X0.heap.size ≤ _ from Below.size CB18.out)))
    clear hb hol
    refine hK.out _ _ ((HS.out _ CB26.out)) (fun hHeld26 => ?_)
    clear hK K
    try simp only [Act.put, List.getElem_toArray, List.getElem_cons_zero, List.getElem_cons_succ, List.setIfInBounds_toArray, List.set_cons_zero, List.set_cons_succ]
    refine wpAnyH_ready (rs := [26]) (by as_aux_lemma => kernel_rfl) (by simp) ?_
    refine AllReadyH.cons rfl (fun K hK => ?_) AllReadyH.nil
    go_simp
    refine (HSM.out _ _ _ CB26.out HOL.out).mono ?_
    rintro e u27 ⟨rfl, hb⟩
    have CB27 := Lib.hid (Below.trans (show Below X0.heap.size X0 _ from CB26.out) (hb.mono (show X0.heap.size ≤ _ from Below.size CB26.out)))
    clear hb HOL
    refine hK.out _ _ ((HS.out _ CB27.out)) (fun hHeld27 => ?_)
    clear hK K
    try simp only [Act.put, List.getElem_toArray, List.getElem_cons_zero, List.getElem_cons_succ, List.setIfInBounds_toArray, List.set_cons_zero, List.set_cons_succ]
    refine wpAnyH_take (i := 27) (v := ?_) rfl (by as_aux_lemma => kernel_rfl) (by as_aux_lemma => kernel_rfl) (by as_aux_lemma => kernel_rfl) (fun _ _ _ h => h) (Or.inl ⟨by rfl, ?ymtc28⟩) (by assumption) ?qmtc28
    case ymtc28 => (intro wz hSw; (try dsimp only at hSw); go_simp <;> with_reducible rfl)
    try simp only [Act.put, List.getElem_toArray, List.getElem_cons_zero, List.getElem_cons_succ, List.setIfInBounds_toArray, List.set_cons_zero, List.set_cons_succ]
    refine wpAnyH_take (i := 28) (v := ?_) rfl (by as_aux_lemma => kernel_rfl) (by as_aux_lemma => kernel_rfl) (by as_aux_lemma => kernel_rfl) (fun _ _ _ h => h) (Or.inl ⟨by rfl, ?ymtc29⟩) (by assumption) ?qmtc29
    case ymtc29 => (intro wz hSw; (try dsimp only at hSw); go_simp <;> with_reducible rfl)
    try simp only [Act.put, List.getElem_toArray, List.getElem_cons_zero, List.getElem_cons_succ, List.setIfInBounds_toArray, List.set_cons_zero, List.set_cons_succ]
    refine wpAnyH_done (by as_aux_lemma => kernel_rfl) ?_ _
    have BF := Lib.hid (H0.out.trans (Below.mono CB27.out H0.out.size))
    go_wp2_with fail
    go_ret
    exact ⟨rfl, BF.out⟩
  · obtain ⟨m, rfl⟩ : ∃ m : Nat, val = (m : Int) := ⟨val.toNat, by omega⟩
    have hml : m < t.list.length := by omega
    rw [(nth_list t (m : Int)).1 ⟨by omega, by have := HLL.out; omega⟩] at hAt
    simp only [Int.toNat_natCast] at hAt
    have HAT := Lib.hid hAt
    have HC : Hid (∀ X, Below X0.heap.size X0 X → ∃ g of, p = some ⟨g, of, none⟩ ∧ X.cell? ⟨g, of + m * 2, none⟩ = some (.int .i64 (t.list.getD m Pai.zero).k) ∧ X.cell? ⟨g, of + m * 2 + 1, none⟩ = some (.int .i64 (t.list.getD m Pai.zero).v)) := Lib.hid fun X hX => by
      obtain ⟨p', c', hv, _, hc⟩ := (HX.out X hX).2.1.open_
      injection hv with e1 e2 e3
      subst e1
      obtain ⟨g, of, hp, _, _, h1, h2⟩ := hc m hml
      exact ⟨g, of, hp, h1, h2⟩
    clear hAt
    generalize t.list.getD m Pai.zero = x at HAT HC
    obtain ⟨xk, xv⟩ := x
    simp only at HC HAT
    obtain ⟨g, of, rfl, _, _⟩ := HC.out _ B2.out
    go_wp2_with fail
    refine HAT.out.mono ?_
    rintro e wb ⟨rfl, hb⟩
    have BB := Lib.hid (B2.out.trans (hb.mono B2.out.size))
    clear hb HAT B2 hgx hgy x0 x1 x2 x3 y0 y1 y2 y3
    have HZ : Hid (Below X0.heap.size X0 (wb.alloc (.cells #[.int .i64 xk, .int .i64 xv] 52))) := Lib.hid (BB.out.alloc BB.out.size _)
    obtain ⟨hgx, x0, x1, x2, x3⟩ := cellsO (HX.out _ BB.out).2.2.1
    obtain ⟨hgy, y0, y1, y2, y3⟩ := cellsD6 (HX.out _ BB.out).2.2.2
    obtain ⟨g', of', hp, c0, c1⟩ := HC.out _ BB.out
    injection hp with hp
    injection hp with e1 e2
    subst e1 e2
    have hgc : g < wb.heap.size := block_lt_of_cell c0
    have hxe := fun wx => ne_pai ⟨xk, xv⟩ ⟨xk, xv⟩ wx
    simp only [Pai.beq_self, Bool.not_true] at hxe
    clear BB
    go_wp2_with fail
    go_quiet (fail)
    have BB := Lib.hid (HZ.out.trans ((below_drewN (Below.refl _ _) nq).mono HZ.out.size))
    clear HZ hxe
    go_upto_region 6 with fail
    obtain ⟨wy, hwy⟩ : ∃ wy, wy = (wb.alloc (.cells #[.int .i64 xk, .int .i64 xv] 52)).drewN nq := ⟨_, rfl⟩
    rw [← hwy] at BB
    rw [← hwy]
    clear hwy c0 c1 hgc x0 x1 x2 x3 y0 y1 y2 y3 hgx hgy
    have BB0 : Hid (Below X0.heap.size X0 wy.drew) := Lib.hid BB.out.drew
    refine wp_region_held_drew (S := (fun X => (X.cell? ⟨w.heap.size, 0, none⟩ = some (.pointer a) ∧ X.cell? ⟨w.heap.size, 1, none⟩ = some (.int .i64 root) ∧ X.cell? ⟨w.heap.size, 2, none⟩ = some (.pointer a) ∧ X.cell? ⟨w.heap.size, 3, none⟩ = some (.slice (some ⟨g, of, none⟩) t.list.length c)) ∧ X.cell? ⟨w.heap.size + 1, 2, none⟩ = some (.int .i64 key))) (by as_aux_lemma => kernel_rfl) (HS.out _ BB0.out) (fun hHeld0 => ?_)
    refine wpAnyH_take (i := 0) (v := ?_) rfl (by as_aux_lemma => kernel_rfl) (by as_aux_lemma => kernel_rfl) (by as_aux_lemma => kernel_rfl) (fun _ _ _ h => h) (Or.inl ⟨by rfl, ?ymta1⟩) (by assumption) ?qmta1
    case ymta1 => (intro wz hSw; (try dsimp only at hSw); go_simp <;> with_reducible rfl)
    try simp only [Act.put, List.getElem_toArray, List.getElem_cons_zero, List.setIfInBounds_toArray, List.set_cons_zero, List.set_cons_succ]
    refine wpAnyH_take (i := 1) (v := ?_) rfl (by as_aux_lemma => kernel_rfl) (by as_aux_lemma => kernel_rfl) (by as_aux_lemma => kernel_rfl) (fun _ _ _ h => h) (Or.inl ⟨by rfl, ?ymta2⟩) (by assumption) ?qmta2
    case ymta2 => (intro wz hSw; (try dsimp only at hSw); go_simp <;> with_reducible rfl)
    try simp only [Act.put, List.getElem_toArray, List.getElem_cons_zero, List.getElem_cons_succ, List.setIfInBounds_toArray, List.set_cons_zero, List.set_cons_succ]
    refine wpAnyH_take (i := 2) (v := ?_) rfl (by as_aux_lemma => kernel_rfl) (by as_aux_lemma => kernel_rfl) (by as_aux_lemma => kernel_rfl) (fun _ _ _ h => h) (Or.inl ⟨by rfl, ?ymta3⟩) (by assumption) ?qmta3
    case ymta3 => (intro wz hSw; (try dsimp only at hSw); go_simp <;> with_reducible rfl)
    try simp only [Act.put, List.getElem_toArray, List.getElem_cons_zero, List.getElem_cons_succ, List.setIfInBounds_toArray, List.set_cons_zero, List.set_cons_succ]
    refine wpAnyH_take (i := 3) (v := ?_) rfl (by as_aux_lemma => kernel_rfl) (by as_aux_lemma => kernel_rfl) (by as_aux_lemma => kernel_rfl) (fun _ _ _ h => h) (Or.inl ⟨by rfl, ?ymta4⟩) (by assumption) ?qmta4
    case ymta4 => (intro wz hSw; (try dsimp only at hSw); go_simp <;> with_reducible rfl)
    try simp only [Act.put, List.getElem_toArray, List.getElem_cons_zero, List.getElem_cons_succ, List.setIfInBounds_toArray, List.set_cons_zero, List.set_cons_succ]
    refine wpAnyH_take (i := 5) (v := ?_) rfl (by as_aux_lemma => kernel_rfl) (by as_aux_lemma => kernel_rfl) (by as_aux_lemma => kernel_rfl) (fun _ _ _ h => h) (Or.inl ⟨by rfl, ?ymta5⟩) (by assumption) ?qmta5
    case ymta5 => (intro wz hSw; (try dsimp only at hSw); go_simp <;> with_reducible rfl)
    try simp only [Act.put, List.getElem_toArray, List.getElem_cons_zero, List.getElem_cons_succ, List.setIfInBounds_toArray, List.set_cons_zero, List.set_cons_succ]
    refine wpAnyH_take (i := 6) (v := ?_) rfl (by as_aux_lemma => kernel_rfl) (by as_aux_lemma => kernel_rfl) (by as_aux_lemma => kernel_rfl) (fun _ _ _ h => h) (Or.inl ⟨by rfl, ?ymta6⟩) (by assumption) ?qmta6
    case ymta6 => (intro wz hSw; (try dsimp only at hSw); go_simp <;> with_reducible rfl)
    try simp only [Act.put, List.getElem_toArray, List.getElem_cons_zero, List.getElem_cons_succ, List.setIfInBounds_toArray, List.set_cons_zero, List.set_cons_succ]
    refine wpAnyH_take (i := 7) (v := ?_) rfl (by as_aux_lemma => kernel_rfl) (by as_aux_lemma => kernel_rfl) (by as_aux_lemma => kernel_rfl) (fun _ _ _ h => h) (Or.inl ⟨by rfl, ?ymta7⟩) (by assumption) ?qmta7
    case ymta7 => (intro wz hSw; (try dsimp only at hSw); go_simp <;> with_reducible rfl)
    try simp only [Act.put, List.getElem_toArray, List.getElem_cons_zero, List.getElem_cons_succ, List.setIfInBounds_toArray, List.set_cons_zero, List.set_cons_succ]
    refine wpAnyH_take (i := 8) (v := ?_) rfl (by as_aux_lemma => kernel_rfl) (by as_aux_lemma => kernel_rfl) (by as_aux_lemma => kernel_rfl) (fun _ _ _ h => h) (Or.inl ⟨by rfl, ?ymta8⟩) (by assumption) ?qmta8
    case ymta8 => (intro wz hSw; (try dsimp only at hSw); go_simp <;> with_reducible rfl)
    try simp only [Act.put, List.getElem_toArray, List.getElem_cons_zero, List.getElem_cons_succ, List.setIfInBounds_toArray, List.set_cons_zero, List.set_cons_succ]
    refine wpAnyH_ready (rs := [4]) (by as_aux_lemma => kernel_rfl) (by simp) ?_
    refine AllReadyH.cons rfl (fun K hK => ?_) AllReadyH.nil
    go_simp
    refine (HRK.out _ BB0.out).mono ?_
    rintro e u9 ⟨rfl, hb⟩
    have CB9 := Lib.hid (Below.trans (show Below X0.heap.size X0 _ from BB0.out) (hb.mono (show X0.heap.size ≤ _ from Below.size BB0.out)))
    clear hb
    refine hK.out _ _ ((HS.out _ CB9.out)) (fun hHeld9 => ?_)
    clear hK K
    try simp only [Act.put, List.getElem_toArray, List.getElem_cons_zero, List.getElem_cons_succ, List.setIfInBounds_toArray, List.set_cons_zero, List.set_cons_succ]
    refine wpAnyH_ready (rs := [9]) (by as_aux_lemma => kernel_rfl) (by simp) ?_
    refine AllReadyH.cons rfl (fun K hK => ?_) AllReadyH.nil
    go_simp
    refine (HRR.out _ CB9.out).mono ?_
    rintro e u10 ⟨rfl, hb⟩
    have CB10 := Lib.hid (Below.trans (show Below X0.heap.size X0 _ from CB9.out) (hb.mono (show X0.heap.size ≤ _ from Below.size CB9.out)))
    clear hb
    refine hK.out _ _ ((HS.out _ CB10.out)) (fun hHeld10 => ?_)
    clear hK K
    try simp only [Act.put, List.getElem_toArray, List.getElem_cons_zero, List.getElem_cons_succ, List.setIfInBounds_toArray, List.set_cons_zero, List.set_cons_succ]
    refine wpAnyH_take (i := 10) (v := ?_) rfl (by as_aux_lemma => kernel_rfl) (by as_aux_lemma => kernel_rfl) (by as_aux_lemma => kernel_rfl) (fun _ _ _ h => h) (Or.inl ⟨by rfl, ?ymta11⟩) (by assumption) ?qmta11
    case ymta11 => (intro wz hSw; (try dsimp only at hSw); go_simp <;> with_reducible rfl)
    try simp only [Act.put, List.getElem_toArray, List.getElem_cons_zero, List.getElem_cons_succ, List.setIfInBounds_toArray, List.set_cons_zero, List.set_cons_succ]
    refine wpAnyH_take (i := 11) (v := ?_) rfl (by as_aux_lemma => kernel_rfl) (by as_aux_lemma => kernel_rfl) (by as_aux_lemma => kernel_rfl) (fun _ _ _ h => h) (Or.inl ⟨by rfl, ?ymta12⟩) (by assumption) ?qmta12
    case ymta12 => (intro wz hSw; (try dsimp only at hSw); go_simp <;> with_reducible rfl)
    try simp only [Act.put, List.getElem_toArray, List.getElem_cons_zero, List.getElem_cons_succ, List.setIfInBounds_toArray, List.set_cons_zero, List.set_cons_succ]
    refine wpAnyH_take (i := 12) (v := ?_) rfl (by as_aux_lemma => kernel_rfl) (by as_aux_lemma => kernel_rfl) (by as_aux_lemma => kernel_rfl) (fun _ _ _ h => h) (Or.inl ⟨by rfl, ?ymta13⟩) (by assumption) ?qmta13
    case ymta13 => (intro wz hSw; (try dsimp only at hSw); go_simp <;> with_reducible rfl)
    try simp only [Act.put, List.getElem_toArray, List.getElem_cons_zero, List.getElem_cons_succ, List.setIfInBounds_toArray, List.set_cons_zero, List.set_cons_succ]
    refine wpAnyH_take (i := 13) (v := ?_) rfl (by as_aux_lemma => kernel_rfl) (by as_aux_lemma => kernel_rfl) (by as_aux_lemma => kernel_rfl) (fun _ _ _ h => h) (Or.inl ⟨by rfl, ?ymta14⟩) (by assumption) ?qmta14
    case ymta14 => (intro wz hSw; (try dsimp only at hSw); go_simp <;> with_reducible rfl)
    try simp only [Act.put, List.getElem_toArray, List.getElem_cons_zero, List.getElem_cons_succ, List.setIfInBounds_toArray, List.set_cons_zero, List.set_cons_succ]
    refine wpAnyH_take (i := 15) (v := ?_) rfl (by as_aux_lemma => kernel_rfl) (by as_aux_lemma => kernel_rfl) (by as_aux_lemma => kernel_rfl) (fun _ _ _ h => h) (Or.inl ⟨by rfl, ?ymta15⟩) (by assumption) ?qmta15
    case ymta15 => (intro wz hSw; (try dsimp only at hSw); go_simp <;> with_reducible rfl)
    try simp only [Act.put, List.getElem_toArray, List.getElem_cons_zero, List.getElem_cons_succ, List.setIfInBounds_toArray, List.set_cons_zero, List.set_cons_succ]
    refine wpAnyH_take (i := 16) (v := ?_) rfl (by as_aux_lemma => kernel_rfl) (by as_aux_lemma => kernel_rfl) (by as_aux_lemma => kernel_rfl) (fun _ _ _ h => h) (Or.inl ⟨by rfl, ?ymta16⟩) (by assumption) ?qmta16
    case ymta16 => (intro wz hSw; (try dsimp only at hSw); go_simp <;> with_reducible rfl)
    try simp only [Act.put, List.getElem_toArray, List.getElem_cons_zero, List.getElem_cons_succ, List.setIfInBounds_toArray, List.set_cons_zero, List.set_cons_succ]
    refine wpAnyH_take (i := 17) (v := ?_) rfl (by as_aux_lemma => kernel_rfl) (by as_aux_lemma => kernel_rfl) (by as_aux_lemma => kernel_rfl) (fun _ _ _ h => h) (Or.inl ⟨by rfl, ?ymta17⟩) (by assumption) ?qmta17
    case ymta17 => (intro wz hSw; (try dsimp only at hSw); go_simp <;> with_reducible rfl)
    try simp only [Act.put, List.getElem_toArray, List.getElem_cons_zero, List.getElem_cons_succ, List.setIfInBounds_toArray, List.set_cons_zero, List.set_cons_succ]
    refine wpAnyH_ready (rs := [14]) (by as_aux_lemma => kernel_rfl) (by simp) ?_
    refine AllReadyH.cons rfl (fun K hK => ?_) AllReadyH.nil
    go_simp
    refine (HLn.out _ CB10.out).mono ?_
    rintro e u18 ⟨rfl, hb⟩
    have CB18 := Lib.hid (Below.trans (show Below X0.heap.size X0 _ from CB10.out) (hb.mono (show X0.heap.size ≤ _ from Below.size CB10.out)))
    clear hb
    refine hK.out _ _ ((HS.out _ CB18.out)) (fun hHeld18 => ?_)
    clear hK K
    try simp only [Act.put, List.getElem_toArray, List.getElem_cons_zero, List.getElem_cons_succ, List.setIfInBounds_toArray, List.set_cons_zero, List.set_cons_succ]
    refine wpAnyH_take (i := 18) (v := ?_) rfl (by as_aux_lemma => kernel_rfl) (by as_aux_lemma => kernel_rfl) (by as_aux_lemma => kernel_rfl) (fun _ _ _ h => h) (Or.inl ⟨by rfl, ?ymta19⟩) (by assumption) ?qmta19
    case ymta19 => (intro wz hSw; (try dsimp only at hSw); go_simp <;> with_reducible rfl)
    try simp only [Act.put, List.getElem_toArray, List.getElem_cons_zero, List.getElem_cons_succ, List.setIfInBounds_toArray, List.set_cons_zero, List.set_cons_succ]
    refine wpAnyH_take (i := 19) (v := ?_) rfl (by as_aux_lemma => kernel_rfl) (by as_aux_lemma => kernel_rfl) (by as_aux_lemma => kernel_rfl) (fun _ _ _ h => h) (Or.inl ⟨by rfl, ?ymta20⟩) (by assumption) ?qmta20
    case ymta20 => (intro wz hSw; (try dsimp only at hSw); go_simp <;> with_reducible rfl)
    try simp only [Act.put, List.getElem_toArray, List.getElem_cons_zero, List.getElem_cons_succ, List.setIfInBounds_toArray, List.set_cons_zero, List.set_cons_succ]
    refine wpAnyH_take (i := 20) (v := ?_) rfl (by as_aux_lemma => kernel_rfl) (by as_aux_lemma => kernel_rfl) (by as_aux_lemma => kernel_rfl) (fun _ _ _ h => h) (Or.inl ⟨by rfl, ?ymta21⟩) (by assumption) ?qmta21
    case ymta21 => (intro wz hSw; (try dsimp only at hSw); go_simp <;> with_reducible rfl)
    try simp only [Act.put, List.getElem_toArray, List.getElem_cons_zero, List.getElem_cons_succ, List.setIfInBounds_toArray, List.set_cons_zero, List.set_cons_succ]
    refine wpAnyH_take (i := 21) (v := ?_) rfl (by as_aux_lemma => kernel_rfl) (by as_aux_lemma => kernel_rfl) (by as_aux_lemma => kernel_rfl) (fun _ _ _ h => h) (Or.inl ⟨by rfl, ?ymta22⟩) (by assumption) ?qmta22
    case ymta22 => (intro wz hSw; (try dsimp only at hSw); go_simp <;> with_reducible rfl)
    try simp only [Act.put, List.getElem_toArray, List.getElem_cons_zero, List.getElem_cons_succ, List.setIfInBounds_toArray, List.set_cons_zero, List.set_cons_succ]
    refine wpAnyH_take (i := 22) (v := ?_) rfl (by as_aux_lemma => kernel_rfl) (by as_aux_lemma => kernel_rfl) (by as_aux_lemma => kernel_rfl) (fun _ _ _ h => h) (Or.inl ⟨by rfl, ?ymta23⟩) (by assumption) ?qmta23
    case ymta23 => (intro wz hSw; (try dsimp only at hSw); go_simp <;> with_reducible rfl)
    try simp only [Act.put, List.getElem_toArray, List.getElem_cons_zero, List.getElem_cons_succ, List.setIfInBounds_toArray, List.set_cons_zero, List.set_cons_succ]
    refine wpAnyH_take (i := 24) (v := ?_) rfl (by as_aux_lemma => kernel_rfl) (by as_aux_lemma => kernel_rfl) (by as_aux_lemma => kernel_rfl) (fun _ _ _ h => h) (Or.inl ⟨by rfl, ?ymta24⟩) (by assumption) ?qmta24
    case ymta24 => (intro wz hSw; (try dsimp only at hSw); go_simp <;> with_reducible rfl)
    try simp only [Act.put, List.getElem_toArray, List.getElem_cons_zero, List.getElem_cons_succ, List.setIfInBounds_toArray, List.set_cons_zero, List.set_cons_succ]
    refine wpAnyH_take (i := 25) (v := ?_) rfl (by as_aux_lemma => kernel_rfl) (by as_aux_lemma => kernel_rfl) (by as_aux_lemma => kernel_rfl) (fun _ _ _ h => h) (Or.inl ⟨by rfl, ?ymta25⟩) (by assumption) ?qmta25
    case ymta25 => (intro wz hSw; (try dsimp only at hSw); go_simp <;> with_reducible rfl)
    try simp only [Act.put, List.getElem_toArray, List.getElem_cons_zero, List.getElem_cons_succ, List.setIfInBounds_toArray, List.set_cons_zero, List.set_cons_succ]
    refine wpAnyH_ready (rs := [23]) (by as_aux_lemma => kernel_rfl) (by simp) ?_
    refine AllReadyH.cons rfl (fun K hK => ?_) AllReadyH.nil
    go_simp
    refine (HLS.out _ CB18.out).mono ?_
    rintro e u26 ⟨vl, rfl, hol, hb⟩
    have HOL := Lib.hid hol
    have CB26 := Lib.hid (Below.trans (show Below X0.heap.size X0 _ from CB18.out) (hb.mono (show X0.heap.size ≤ _ from Below.size CB18.out)))
    clear hb hol
    refine hK.out _ _ ((HS.out _ CB26.out)) (fun hHeld26 => ?_)
    clear hK K
    try simp only [Act.put, List.getElem_toArray, List.getElem_cons_zero, List.getElem_cons_succ, List.setIfInBounds_toArray, List.set_cons_zero, List.set_cons_succ]
    refine wpAnyH_ready (rs := [26]) (by as_aux_lemma => kernel_rfl) (by simp) ?_
    refine AllReadyH.cons rfl (fun K hK => ?_) AllReadyH.nil
    go_simp
    refine (HSM.out _ _ _ CB26.out HOL.out).mono ?_
    rintro e u27 ⟨rfl, hb⟩
    have CB27 := Lib.hid (Below.trans (show Below X0.heap.size X0 _ from CB26.out) (hb.mono (show X0.heap.size ≤ _ from Below.size CB26.out)))
    clear hb HOL
    refine hK.out _ _ ((HS.out _ CB27.out)) (fun hHeld27 => ?_)
    clear hK K
    try simp only [Act.put, List.getElem_toArray, List.getElem_cons_zero, List.getElem_cons_succ, List.setIfInBounds_toArray, List.set_cons_zero, List.set_cons_succ]
    refine wpAnyH_take (i := 27) (v := ?_) rfl (by as_aux_lemma => kernel_rfl) (by as_aux_lemma => kernel_rfl) (by as_aux_lemma => kernel_rfl) (fun _ _ _ h => h) (Or.inl ⟨by rfl, ?ymta28⟩) (by assumption) ?qmta28
    case ymta28 => (intro wz hSw; (try dsimp only at hSw); go_simp <;> with_reducible rfl)
    try simp only [Act.put, List.getElem_toArray, List.getElem_cons_zero, List.getElem_cons_succ, List.setIfInBounds_toArray, List.set_cons_zero, List.set_cons_succ]
    refine wpAnyH_take (i := 28) (v := ?_) rfl (by as_aux_lemma => kernel_rfl) (by as_aux_lemma => kernel_rfl) (by as_aux_lemma => kernel_rfl) (fun _ _ _ h => h) (Or.inl ⟨by rfl, ?ymta29⟩) (by assumption) ?qmta29
    case ymta29 => (intro wz hSw; (try dsimp only at hSw); go_simp <;> with_reducible rfl)
    try simp only [Act.put, List.getElem_toArray, List.getElem_cons_zero, List.getElem_cons_succ, List.setIfInBounds_toArray, List.set_cons_zero, List.set_cons_succ]
    refine wpAnyH_done (by as_aux_lemma => kernel_rfl) ?_ _
    have BF := Lib.hid (H0.out.trans (Below.mono CB27.out H0.out.size))
    go_wp2_with fail
    go_ret
    exact ⟨rfl, BF.out⟩
end Go.Proofs.Ytpmimngngehmlaa.F
