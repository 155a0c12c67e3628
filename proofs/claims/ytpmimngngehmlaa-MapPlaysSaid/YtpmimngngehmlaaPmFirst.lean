/-
  Contract of the builder's first. Not a statement of the seat.
-/
import Derived.Test.YtpmimngngehmlaaPmWith
namespace Go.Proofs.Ytpmimngngehmlaa.F
open Go.ChangeShapes Go.WideShapes Go.ChangeAt Go.RowKit Base
set_option maxRecDepth 100000 in
theorem wp_store_pai {o : Oper} {a : Act} {w : World} {K : Act → World → Prop} {Q : Exit → Act → World → Prop} (x y : Operand) (ho : o.op = .store 52 x y)
    (g : Nat) (c c0 : Pai) (hx : a.eval x = .pointer (some ⟨g, 0, none⟩)) (hy : a.eval y = .agg #[.int .i64 c.k, .int .i64 c.v]) (hg : w.heap[g]? = some (boxP c0))
    (h : ∀ w', Stored w g (boxP c) w' → K (a.put o.dst undef) w') : o.wp Try.prog a w K Q :=
  wp_store_row _ x y ho g _ hx hy 52 _ hg (by kernel_rfl) rfl (by simp [Value.oneCell']) (h _ (stored_setRow _ _ _ _ _ hg))
theorem BS.boxp {B : Nat} {pv : Value} {root had : Int} {room : Nat} {w0 w : World} {o0 o : Option Nat} {zs : List Cel} {why : Int} {bs : List (Nat × Obj)} (h : BS B pv root had room w0 o0 w o zs why bs) {g : Nat} {c : Pai} (hp : (g, boxP c) ∈ bs) : w.cell? ⟨g, 0, none⟩ = some (.int .i64 c.k) ∧ w.cell? ⟨g, 1, none⟩ = some (.int .i64 c.v) := (cellsP (h.at_ hp)).2
/-- What the builder's first leaves. -/
def BO2 (B : Nat) (pv : Value) (o : Option Nat) (root had : Int) (room : Nat) (zs : List Cel) (n : Nat) (p : Pai) (T : Tre) (w : World) (e : Ending) (w' : World) : Prop :=
  ∃ R, Out room zs n T R ∧ R.1.length ≤ room ∧ BP B pv o root had room R.1 R.2.1 (.tuple #[.agg #[.int .i64 p.k, .int .i64 p.v], .int .i64 R.2.2]) w e w'
set_option maxHeartbeats 8000000 in
set_option maxRecDepth 100000 in
theorem bfirst {B : Nat} {pv : Value} {root had : Int} {room : Nat} : ∀ (t : Tre) (w : World) (o : Option Nat) (zs : List Cel) (i : Int), BI w B pv o root had room zs 0 → Tr zs t i → t.size ≤ 500000 → t ≠ .nil →
    Calls Try.prog 106 #[.pointer (some ⟨B, 0, none⟩), .int .i64 i] w (BO2 B pv o root had room zs (3 * t.high) (Tre.pop t).1 (Tre.pop t).2 w) := by
  intro t
  induction t with
  | nil => exact fun _ _ _ _ _ _ _ h => absurd rfl h
  | node l k v r ihl _ =>
    intro w o zs i h ht hsz _
    obtain ⟨a, rfl⟩ : ∃ a, pv = .pointer a := by
      rcases h.2 with ⟨rfl, _⟩ | ⟨b, rfl, _⟩
      · exact ⟨_, rfl⟩
      · exact ⟨_, rfl⟩
    obtain ⟨hi, ia, ib, hcel, hl, hr⟩ := ht
    have hco := celAt_ok h.2.oks i
    rw [hcel] at hco
    have hra := h.2.le
    simp only [Tre.size] at hsz
    have J0 : Hid (BS B (.pointer a) root had room w o (w.alloc (boxP ⟨0, 0⟩)) o zs 0 [(w.heap.size, boxP ⟨0, 0⟩)]) := Lib.hid ((BS.start h).alloc _)
    have HC := Lib.hid (pmcell root i J0.out.bi.2)
    rw [hcel] at HC
    generalize ((Tre.node l k v r).size : Int) = cs at HC hco
    generalize ((Tre.node l k v r).high : Int) = ch at HC hco
    have IHL := Lib.hid ihl
    have HL := Lib.hid hl
    have HR := Lib.hid hr
    have hla := hl.le
    have hra2 := hr.le
    obtain ⟨hgB, ⟨s0, s1⟩, _⟩ := bcells h.1
    have hlc : (l = .nil ∧ ia = 0) ∨ (l ≠ .nil ∧ 1 ≤ ia) := by
      cases l with
      | nil => exact .inl ⟨rfl, hl⟩
      | node => exact .inr ⟨by simp, hl.1.1⟩
    clear ihl hl hr hcel h
    rcases hlc with ⟨rfl, rfl⟩ | ⟨hln, hia⟩
    · go_enter Try.func106, Try.ntmps106
      go_wp2_with fail
      refine HC.out.mono ?_
      rintro e w1 ⟨rfl, hb⟩
      have J1 := Lib.hid (J0.out.below hb)
      have J2 : Hid (BS B (.pointer a) root had room w o (w1.alloc (boxC ⟨0, ib, k, v, cs, ch⟩)) o zs 0 [(w1.heap.size, boxC ⟨0, ib, k, v, cs, ch⟩), (w.heap.size, boxP ⟨0, 0⟩)]) := Lib.hid (J1.out.alloc (boxC ⟨0, ib, k, v, cs, ch⟩))
      clear hb J0 HC s0 s1 hgB
      go_upto_region 3 with fail
      have JD1 := Lib.hid J2.out.drew
      refine wp_region_held_drew (S := (fun X => (X.cell? ⟨w1.heap.size, 0, none⟩ = some (.int .i64 0) ∧ X.cell? ⟨w1.heap.size, 1, none⟩ = some (.int .i64 ib) ∧ X.cell? ⟨w1.heap.size, 2, none⟩ = some (.int .i64 k) ∧ X.cell? ⟨w1.heap.size, 3, none⟩ = some (.int .i64 v) ∧ X.cell? ⟨w1.heap.size, 4, none⟩ = some (.int .i64 cs) ∧ X.cell? ⟨w1.heap.size, 5, none⟩ = some (.int .i64 ch)))) (by kernel_rfl) (JD1.out.box (List.mem_cons_self ..)) (fun hHeld0 => ?_)
      refine wpAnyH_take (i := 0) (v := ?_) rfl (by kernel_rfl) (by kernel_rfl) (by kernel_rfl) (fun _ _ _ h => h) (Or.inl ⟨by rfl, ?yfa1⟩) (by assumption) ?qfa1
      case yfa1 => (intro wz hSw; (try dsimp only at hSw); go_simp <;> with_reducible rfl)
      try simp only [Act.put, List.getElem_toArray, List.getElem_cons_zero, List.setIfInBounds_toArray, List.set_cons_zero, List.set_cons_succ]
      refine wpAnyH_take (i := 2) (v := ?_) rfl (by kernel_rfl) (by kernel_rfl) (by kernel_rfl) (fun _ _ _ h => h) (Or.inl ⟨by rfl, ?yfa2⟩) (by assumption) ?qfa2
      case yfa2 => (intro wz hSw; (try dsimp only at hSw); go_simp <;> with_reducible rfl)
      try simp only [Act.put, List.getElem_toArray, List.getElem_cons_zero, List.getElem_cons_succ, List.setIfInBounds_toArray, List.set_cons_zero, List.set_cons_succ]
      refine wpAnyH_take (i := 3) (v := ?_) rfl (by kernel_rfl) (by kernel_rfl) (by kernel_rfl) (fun _ _ _ h => h) (Or.inl ⟨by rfl, ?yfa3⟩) (by assumption) ?qfa3
      case yfa3 => (intro wz hSw; (try dsimp only at hSw); go_simp <;> with_reducible rfl)
      try simp only [Act.put, List.getElem_toArray, List.getElem_cons_zero, List.getElem_cons_succ, List.setIfInBounds_toArray, List.set_cons_zero, List.set_cons_succ]
      refine wpAnyH_ready (rs := [1]) (by kernel_rfl) (by simp) ?_
      refine AllReadyH.cons rfl (fun K hK => ?_) AllReadyH.nil
      go_simp
      refine (pmpair ⟨0, ib, k, v, cs, ch⟩ _).mono ?_
      rintro e wn2 ⟨rfl, hbn2⟩
      have Jn2 := Lib.hid (JD1.out.below hbn2)
      clear hbn2
      try go_wp2_with fail
      refine hK.out _ _ (Jn2.out.box (List.mem_cons_self ..)) (fun hHeld4 => ?_)
      clear hK K
      try simp only [Act.put, List.getElem_toArray, List.getElem_cons_zero, List.getElem_cons_succ, List.setIfInBounds_toArray, List.set_cons_zero, List.set_cons_succ]
      refine wpAnyH_ready (rs := [4]) (by kernel_rfl) (by simp) ?_
      refine AllReadyH.cons rfl (fun K hK => ?_) AllReadyH.nil
      have JHn3 := Lib.hid Jn2.out.swap
      rw [if_pos (by rfl)]
      refine wp_store_pai (.tmp 4) (.tmp 19) rfl w.heap.size (⟨k, v⟩) ⟨0, 0⟩ rfl rfl (JHn3.out.at_ (List.mem_cons_self ..)) ?_
      intro wn3 hstn3
      have Jn3 : Hid (BS B (.pointer a) root had room w o wn3 o zs 0 [(w.heap.size, boxP ⟨k, v⟩), (w1.heap.size, boxC ⟨0, ib, k, v, cs, ch⟩)]) := Lib.hid (JHn3.out.store hstn3)
      clear hstn3
      refine hK.out _ _ (Jn3.out.box (List.mem_cons_of_mem _ (List.mem_cons_self ..))) (fun hHeld5 => ?_)
      clear hK K
      try simp only [Act.put, List.getElem_toArray, List.getElem_cons_zero, List.getElem_cons_succ]
      refine wpAnyH_take (i := 5) (v := ?_) rfl (by kernel_rfl) (by kernel_rfl) (by kernel_rfl) (fun _ _ _ h => h) (Or.inl ⟨by rfl, ?yfa6⟩) (by assumption) ?qfa6
      case yfa6 => (intro wz hSw; (try dsimp only at hSw); go_simp <;> with_reducible rfl)
      try simp only [Act.put, List.getElem_toArray, List.getElem_cons_zero, List.getElem_cons_succ, List.setIfInBounds_toArray, List.set_cons_zero, List.set_cons_succ]
      refine wpAnyH_done (by kernel_rfl) ?_ _
      have hgr := heap_lt (Jn3.out.at_ (List.mem_cons_self ..))
      obtain ⟨z0, z1⟩ := Jn3.out.boxp (List.mem_cons_self ..)
      go_wp2_with fail
      exact bodyPost_ret (v := .tuple #[.agg #[.int .i64 k, .int .i64 v], .int .i64 ib]) (by simp [results, Try.results106, go_sem, z0, z1]) rfl ⟨(zs, 0, ib), ⟨[], by simp, .inl ⟨rfl, HR.out, Nat.zero_le _⟩⟩, hra.1, Jn3.out.done _⟩
    · have hin : (ia == 0) = false := by rw [beq_eq_false_iff_ne]; omega
      rw [Tre.pop_node _ _ _ _ hln]
      have hps := Tre.pop_size hln
      generalize Tre.pop l = pl at hps IHL ⊢
      obtain ⟨⟨pk, pw⟩, T⟩ := pl
      simp only at hps IHL ⊢
      have hhi : 3 * l.high + 3 ≤ 3 * (Tre.node l k v r).high := by simp only [Tre.high]; omega
      go_enter Try.func106, Try.ntmps106
      go_wp2_with fail
      refine HC.out.mono ?_
      rintro e w1 ⟨rfl, hb⟩
      have J1 := Lib.hid (J0.out.below hb)
      have J2 : Hid (BS B (.pointer a) root had room w o (w1.alloc (boxC ⟨ia, ib, k, v, cs, ch⟩)) o zs 0 [(w1.heap.size, boxC ⟨ia, ib, k, v, cs, ch⟩), (w.heap.size, boxP ⟨0, 0⟩)]) := Lib.hid (J1.out.alloc (boxC ⟨ia, ib, k, v, cs, ch⟩))
      clear hb J0 HC s0 s1 hgB
      go_wp2_with fail
      refine (IHL.out _ _ _ _ J2.out.bi HL.out (by omega) hln).mono ?_
      rintro e w3 ⟨R, hO, hlen, hs⟩
      obtain ⟨rfl, o3, J3⟩ := J2.out.call hs
      have hix := hO.idx
      have HO2 := Lib.hid (out_left (k := k) (v := v) (s := cs) (h := ch) hO HR.out (by omega) (by omega) hlen)
      obtain ⟨hgc, c0, c1, c2, c3, c4, c5⟩ := cellsC (J3.out.at_ (List.mem_cons_self ..))
      obtain ⟨f0, f1, f2, f3, f4, f5⟩ := frozC (J3.out.at_ (List.mem_cons_self ..))
      clear hs hO J1 J2
      obtain ⟨zs1, why1, i1⟩ := R
      simp only at hix HO2 J3 hlen ⊢
      have J4 := Lib.hid (J3.out.store (stored_l (J3.out.at_ (List.mem_cons_self ..)) i1))
      have J5 : Hid (BS B (.pointer a) root had room w o ((w3.setCell ⟨w1.heap.size, 0, none⟩ (.int .i64 i1)).alloc (boxP ⟨pk, pw⟩)) o3 zs1 why1 [(w3.heap.size, boxP ⟨pk, pw⟩), (w1.heap.size, boxC ⟨i1, ib, k, v, cs, ch⟩), (w.heap.size, boxP ⟨0, 0⟩)]) := Lib.hid (by
        have h := J4.out.alloc (boxP ⟨pk, pw⟩)
        rwa [show (w3.setCell ⟨w1.heap.size, 0, none⟩ (.int .i64 i1)).heap.size = w3.heap.size by simp [World.setCell]] at h)
      have HLV : Hid (∀ (X : World) (o' : Option Nat), BI X B (.pointer a) o' root had room zs1 why1 → Calls Try.prog 105 #[.pointer (some ⟨B, 0, none⟩), .agg #[.int .i64 i1, .int .i64 ib, .int .i64 k, .int .i64 v, .int .i64 cs, .int .i64 ch]] X (BP B (.pointer a) o' root had room (levelM room zs1 why1 ⟨i1, ib, k, v, cs, ch⟩).1 (levelM room zs1 why1 ⟨i1, ib, k, v, cs, ch⟩).2.1 (.int .i64 (levelM room zs1 why1 ⟨i1, ib, k, v, cs, ch⟩).2.2) X)) := Lib.hid fun X o' hX => blevel ⟨i1, ib, k, v, cs, ch⟩ hX (by unfold fitC; simp only; omega) (by unfold Cel.ok at *; simp only at *; omega)
      generalize levelM room zs1 why1 ⟨i1, ib, k, v, cs, ch⟩ = q at HO2 HLV
      obtain ⟨zs2, why2, i2⟩ := q
      simp only at HO2 HLV
      go_upto_region 6 with fail
      have JD4 := Lib.hid J5.out.drew
      refine wp_region_held_drew (S := (fun X => (X.cell? ⟨w1.heap.size, 0, none⟩ = some (.int .i64 i1) ∧ X.cell? ⟨w1.heap.size, 1, none⟩ = some (.int .i64 ib) ∧ X.cell? ⟨w1.heap.size, 2, none⟩ = some (.int .i64 k) ∧ X.cell? ⟨w1.heap.size, 3, none⟩ = some (.int .i64 v) ∧ X.cell? ⟨w1.heap.size, 4, none⟩ = some (.int .i64 cs) ∧ X.cell? ⟨w1.heap.size, 5, none⟩ = some (.int .i64 ch)) ∧ (X.cell? ⟨w3.heap.size, 0, none⟩ = some (.int .i64 pk) ∧ X.cell? ⟨w3.heap.size, 1, none⟩ = some (.int .i64 pw)))) (by kernel_rfl) (⟨JD4.out.box (List.mem_cons_of_mem _ (List.mem_cons_self ..)), JD4.out.boxp (List.mem_cons_self ..)⟩) (fun hHeld0 => ?_)
      refine wpAnyH_take (i := 0) (v := ?_) rfl (by kernel_rfl) (by kernel_rfl) (by kernel_rfl) (fun _ _ _ h => h) (Or.inl ⟨by rfl, ?yfb1⟩) (by assumption) ?qfb1
      case yfb1 => (intro wz hSw; (try dsimp only at hSw); go_simp <;> with_reducible rfl)
      try simp only [Act.put, List.getElem_toArray, List.getElem_cons_zero, List.setIfInBounds_toArray, List.set_cons_zero, List.set_cons_succ]
      refine wpAnyH_take (i := 1) (v := ?_) rfl (by kernel_rfl) (by kernel_rfl) (by kernel_rfl) (fun _ _ _ h => h) (Or.inl ⟨by rfl, ?yfb2⟩) (by assumption) ?qfb2
      case yfb2 => (intro wz hSw; (try dsimp only at hSw); go_simp <;> with_reducible rfl)
      try simp only [Act.put, List.getElem_toArray, List.getElem_cons_zero, List.getElem_cons_succ, List.setIfInBounds_toArray, List.set_cons_zero, List.set_cons_succ]
      refine wpAnyH_take (i := 2) (v := ?_) rfl (by kernel_rfl) (by kernel_rfl) (by kernel_rfl) (fun _ _ _ h => h) (Or.inl ⟨by rfl, ?yfb3⟩) (by assumption) ?qfb3
      case yfb3 => (intro wz hSw; (try dsimp only at hSw); go_simp <;> with_reducible rfl)
      try simp only [Act.put, List.getElem_toArray, List.getElem_cons_zero, List.getElem_cons_succ, List.setIfInBounds_toArray, List.set_cons_zero, List.set_cons_succ]
      refine wpAnyH_ready (rs := [3]) (by kernel_rfl) (by simp) ?_
      refine AllReadyH.cons rfl (fun K hK => ?_) AllReadyH.nil
      go_simp
      refine (HLV.out _ _ JD4.out.bi).mono ?_
      intro e wn5 hsn5
      obtain ⟨rfl, on5, Jn5⟩ := JD4.out.call hsn5
      clear hsn5
      try go_wp2_with fail
      have hlnn5 := Jn5.out.bi.2.le
      refine hK.out _ _ (⟨Jn5.out.box (List.mem_cons_of_mem _ (List.mem_cons_self ..)), Jn5.out.boxp (List.mem_cons_self ..)⟩) (fun hHeld4 => ?_)
      clear hK K
      try simp only [Act.put, List.getElem_toArray, List.getElem_cons_zero, List.getElem_cons_succ, List.setIfInBounds_toArray, List.set_cons_zero, List.set_cons_succ]
      refine wpAnyH_ready (rs := [4]) (by kernel_rfl) (by simp) ?_
      refine AllReadyH.cons rfl (fun K hK => ?_) AllReadyH.nil
      have JHn6 := Lib.hid Jn5.out.rot
      rw [if_pos (by rfl)]
      refine wp_store_pai (.tmp 4) (.tmp 31) rfl w.heap.size (⟨pk, pw⟩) ⟨0, 0⟩ rfl rfl (JHn6.out.at_ (List.mem_cons_self ..)) ?_
      intro wn6 hstn6
      have Jn6 : Hid (BS B (.pointer a) root had room w o wn6 on5 zs2 why2 [(w.heap.size, boxP ⟨pk, pw⟩), (w3.heap.size, boxP ⟨pk, pw⟩), (w1.heap.size, boxC ⟨i1, ib, k, v, cs, ch⟩)]) := Lib.hid (JHn6.out.store hstn6)
      clear hstn6
      refine hK.out _ _ (⟨Jn6.out.box (List.mem_cons_of_mem _ (List.mem_cons_of_mem _ (List.mem_cons_self ..))), Jn6.out.boxp (List.mem_cons_of_mem _ (List.mem_cons_self ..))⟩) (fun hHeld5 => ?_)
      clear hK K
      try simp only [Act.put, List.getElem_toArray, List.getElem_cons_zero, List.getElem_cons_succ]
      refine wpAnyH_take (i := 5) (v := ?_) rfl (by kernel_rfl) (by kernel_rfl) (by kernel_rfl) (fun _ _ _ h => h) (Or.inl ⟨by rfl, ?yfb6⟩) (by assumption) ?qfb6
      case yfb6 => (intro wz hSw; (try dsimp only at hSw); go_simp <;> with_reducible rfl)
      try simp only [Act.put, List.getElem_toArray, List.getElem_cons_zero, List.getElem_cons_succ, List.setIfInBounds_toArray, List.set_cons_zero, List.set_cons_succ]
      refine wpAnyH_done (by kernel_rfl) ?_ _
      obtain ⟨z0, z1⟩ := Jn6.out.boxp (List.mem_cons_self ..)
      go_wp2_with fail
      exact bodyPost_ret (v := .tuple #[.agg #[.int .i64 pk, .int .i64 pw], .int .i64 i2]) (by simp [results, Try.results106, go_sem, z0, z1]) rfl ⟨(zs2, why2, i2), HO2.out.mono hhi, Jn6.out.bi.2.le.1, Jn6.out.done _⟩
end Go.Proofs.Ytpmimngngehmlaa.F
