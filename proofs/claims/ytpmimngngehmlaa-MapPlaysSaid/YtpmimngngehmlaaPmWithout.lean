/-
  Contract of the builder's without. Not a statement of the seat.
-/
import Derived.Test.YtpmimngngehmlaaPmFirst
namespace Go.Proofs.Ytpmimngngehmlaa.F
open Go.ChangeShapes Go.WideShapes Go.ChangeAt Go.RowKit Base
/-- Is a key in a tree, where it would be looked for? -/
def Tre.has (key : Int) : Tre → Bool
  | .nil => false
  | .node l k _ r => if key < k then l.has key else if k < key then r.has key else true
theorem Tr.oks {zs : List Cel} (h : ∀ x ∈ zs, x.ok) : ∀ {t : Tre} {i : Int}, Tr zs t i → ∀ p ∈ t.list, p.ok
  | .nil, _, _ => fun p hp => by simp [Tre.list] at hp
  | .node l k v r, i, ht => by
    obtain ⟨_, a, b, hc, hl, hr⟩ := ht
    have hco := celAt_ok h i
    rw [hc] at hco
    intro p hp
    simp only [Tre.list, List.mem_append, List.mem_cons] at hp
    rcases hp with hp | rfl | hp
    · exact Tr.oks h hl p hp
    · unfold Cel.ok at hco; unfold Pai.ok; simp only at hco ⊢; omega
    · exact Tr.oks h hr p hp
set_option maxHeartbeats 8000000 in
set_option maxRecDepth 100000 in
theorem bwithout {B : Nat} {pv : Value} {root had : Int} {room : Nat} (key : Int) : ∀ (t : Tre) (w : World) (o : Option Nat) (zs : List Cel) (i : Int), BI w B pv o root had room zs 0 → Tr zs t i → t.size ≤ 500000 → t.has key = true →
    Calls Try.prog 67 #[.pointer (some ⟨B, 0, none⟩), .int .i64 i, .int .i64 key] w (BO B pv o root had room zs (3 * t.high) (Tre.del key t) w) := by
  intro t
  induction t with
  | nil => exact fun _ _ _ _ _ _ _ h => by cases h
  | node l k v r ihl ihr =>
    intro w o zs i h ht hsz hhas
    obtain ⟨a, rfl⟩ : ∃ a, pv = .pointer a := by
      rcases h.2 with ⟨rfl, _⟩ | ⟨b, rfl, _⟩
      · exact ⟨_, rfl⟩
      · exact ⟨_, rfl⟩
    obtain ⟨hi, ia, ib, hcel, hl, hr⟩ := ht
    have hco := celAt_ok h.2.oks i
    rw [hcel] at hco
    have hra := h.2.le
    simp only [Tre.size] at hsz
    have J0 : Hid (BS B (.pointer a) root had room w o w o zs 0 []) := Lib.hid (BS.start h)
    have HC := Lib.hid (pmcell root i h.2)
    rw [hcel] at HC
    have hhi : 3 * l.high + 3 ≤ 3 * (Tre.node l k v r).high := by simp only [Tre.high]; omega
    have hhi2 : 3 * r.high + 3 ≤ 3 * (Tre.node l k v r).high := by simp only [Tre.high]; omega
    generalize ((Tre.node l k v r).size : Int) = cs at HC hco
    generalize ((Tre.node l k v r).high : Int) = ch at HC hco
    have IHL := Lib.hid ihl
    have IHR := Lib.hid ihr
    have HL := Lib.hid hl
    have HR := Lib.hid hr
    have hla := hl.le
    have hra2 := hr.le
    obtain ⟨hgB, ⟨s0, s1⟩, _⟩ := bcells h.1
    have hok := h.2.oks
    have hlc : (l = .nil ∧ ia = 0) ∨ (l ≠ .nil ∧ 1 ≤ ia) := by
      cases l with
      | nil => exact .inl ⟨rfl, hl⟩
      | node => exact .inr ⟨by simp, hl.1.1⟩
    have hrc : (r = .nil ∧ ib = 0) ∨ (r ≠ .nil ∧ 1 ≤ ib) := by
      cases r with
      | nil => exact .inl ⟨rfl, hr⟩
      | node => exact .inr ⟨by simp, hr.1.1⟩
    simp only [Tre.has] at hhas
    clear ihl ihr hl hr hcel h
    rcases (show key < k ∨ k < key ∨ key = k by omega) with hk | hk | hk
    · rw [if_pos hk] at hhas
      have HI : Hid (Tre.del key (.node l k v r) = Tre.lev (Tre.del key l) k v r) := Lib.hid (by simp only [Tre.del, if_pos hk])
      have HB := Lib.hid (Tre.del_size key l)
      have HH := Lib.hid hhas
      rw [HI.out]
      clear hlc hrc hhas
      go_enter Try.func67, Try.ntmps67
      go_wp2_with fail
      refine HC.out.mono ?_
      rintro e w1 ⟨rfl, hb⟩
      have J1 := Lib.hid (J0.out.below hb)
      have J2 : Hid (BS B (.pointer a) root had room w o (w1.alloc (boxC ⟨ia, ib, k, v, cs, ch⟩)) o zs 0 [(w1.heap.size, boxC ⟨ia, ib, k, v, cs, ch⟩)]) := Lib.hid (J1.out.alloc (boxC ⟨ia, ib, k, v, cs, ch⟩))
      clear hb J0 HC s0 s1 hgB
      go_wp2_with fail
      refine (IHL.out _ _ _ _ J2.out.bi HL.out (by omega) HH.out).mono ?_
      rintro e w3 ⟨R, hO, hlen, hs⟩
      obtain ⟨rfl, o3, J3⟩ := J2.out.call hs
      have hix := hO.idx
      have HO2 := Lib.hid (out_left (k := k) (v := v) (s := cs) (h := ch) hO HR.out (by have := HB.out; omega) (by omega) hlen)
      obtain ⟨hgc, c0, c1, c2, c3, c4, c5⟩ := cellsC (J3.out.at_ (List.mem_cons_self ..))
      obtain ⟨f0, f1, f2, f3, f4, f5⟩ := frozC (J3.out.at_ (List.mem_cons_self ..))
      clear hs hO J1 J2
      obtain ⟨zs1, why1, i1⟩ := R
      simp only at hix HO2 J3 hlen ⊢
      go_wp2_with fail
      refine (lev_step (c' := ⟨i1, ib, k, v, cs, ch⟩) J3.out (stored_l (J3.out.at_ (List.mem_cons_self ..)) _) (by unfold fitC; simp only; omega) (by unfold Cel.ok at *; simp only at *; omega) HO2.out).mono ?_
      rintro e w4 ⟨v4, rfl, H⟩
      go_wp2_with fail
      go_ret
      exact H.out.mono (by omega)
    · rw [if_neg (show ¬ key < k by omega), if_pos hk] at hhas
      have HI : Hid (Tre.del key (.node l k v r) = Tre.lev l k v (Tre.del key r)) := Lib.hid (by simp only [Tre.del, if_neg (show ¬ key < k by omega), if_pos hk])
      have hk1 : k ≤ key := by omega
      have HB := Lib.hid (Tre.del_size key r)
      have HH := Lib.hid hhas
      rw [HI.out]
      clear hlc hrc hhas
      go_enter Try.func67, Try.ntmps67
      go_wp2_with fail
      refine HC.out.mono ?_
      rintro e w1 ⟨rfl, hb⟩
      have J1 := Lib.hid (J0.out.below hb)
      have J2 : Hid (BS B (.pointer a) root had room w o (w1.alloc (boxC ⟨ia, ib, k, v, cs, ch⟩)) o zs 0 [(w1.heap.size, boxC ⟨ia, ib, k, v, cs, ch⟩)]) := Lib.hid (J1.out.alloc (boxC ⟨ia, ib, k, v, cs, ch⟩))
      clear hb J0 HC s0 s1 hgB
      go_wp2_with fail
      refine (IHR.out _ _ _ _ J2.out.bi HR.out (by omega) HH.out).mono ?_
      rintro e w3 ⟨R, hO, hlen, hs⟩
      obtain ⟨rfl, o3, J3⟩ := J2.out.call hs
      have hix := hO.idx
      have HO2 := Lib.hid (out_right (k := k) (v := v) (s := cs) (h := ch) hO HL.out (by have := HB.out; omega) (by omega) hlen)
      obtain ⟨hgc, c0, c1, c2, c3, c4, c5⟩ := cellsC (J3.out.at_ (List.mem_cons_self ..))
      obtain ⟨f0, f1, f2, f3, f4, f5⟩ := frozC (J3.out.at_ (List.mem_cons_self ..))
      clear hs hO J1 J2
      obtain ⟨zs1, why1, i1⟩ := R
      simp only at hix HO2 J3 hlen ⊢
      go_wp2_with fail
      refine (lev_step (c' := ⟨ia, i1, k, v, cs, ch⟩) J3.out (stored_r (J3.out.at_ (List.mem_cons_self ..)) _) (by unfold fitC; simp only; omega) (by unfold Cel.ok at *; simp only at *; omega) HO2.out).mono ?_
      rintro e w4 ⟨v4, rfl, H⟩
      go_wp2_with fail
      go_ret
      exact H.out.mono (by omega)
    · subst hk
      clear hhas IHL IHR
      have hk1 : key ≤ key := Int.le_refl _
      rcases hlc with ⟨rfl, rfl⟩ | ⟨hln, hia⟩
      · have HD : Hid (Tre.del key (.node .nil key v r) = r) := Lib.hid (by simp only [Tre.del, if_neg (Int.lt_irrefl _)])
        rw [HD.out]
        clear hrc
        go_enter Try.func67, Try.ntmps67
        go_wp2_with fail
        refine HC.out.mono ?_
        rintro e w1 ⟨rfl, hb⟩
        have J1 := Lib.hid (J0.out.below hb)
        have J2 : Hid (BS B (.pointer a) root had room w o (w1.alloc (boxC ⟨0, ib, key, v, cs, ch⟩)) o zs 0 [(w1.heap.size, boxC ⟨0, ib, key, v, cs, ch⟩)]) := Lib.hid (J1.out.alloc (boxC ⟨0, ib, key, v, cs, ch⟩))
        clear hb J0 HC s0 s1 hgB
        go_wp2_with fail
        go_ret
        exact ⟨(zs, 0, ib), ⟨[], by simp, .inl ⟨rfl, HR.out, Nat.zero_le _⟩⟩, hra.1, J2.out.done _⟩
      · have hin : (ia == 0) = false := by rw [beq_eq_false_iff_ne]; omega
        rcases hrc with ⟨rfl, rfl⟩ | ⟨hrn, hib⟩
        · have HD : Hid (Tre.del key (.node l key v .nil) = l) := Lib.hid (by cases l with | nil => exact absurd rfl hln | node => simp only [Tre.del, if_neg (Int.lt_irrefl _)])
          rw [HD.out]
          go_enter Try.func67, Try.ntmps67
          go_wp2_with fail
          refine HC.out.mono ?_
          rintro e w1 ⟨rfl, hb⟩
          have J1 := Lib.hid (J0.out.below hb)
          have J2 : Hid (BS B (.pointer a) root had room w o (w1.alloc (boxC ⟨ia, 0, key, v, cs, ch⟩)) o zs 0 [(w1.heap.size, boxC ⟨ia, 0, key, v, cs, ch⟩)]) := Lib.hid (J1.out.alloc (boxC ⟨ia, 0, key, v, cs, ch⟩))
          clear hb J0 HC s0 s1 hgB
          go_wp2_with fail
          go_ret
          exact ⟨(zs, 0, ia), ⟨[], by simp, .inl ⟨rfl, HL.out, Nat.zero_le _⟩⟩, hra.1, J2.out.done _⟩
        · have hinb : (ib == 0) = false := by rw [beq_eq_false_iff_ne]; omega
          rw [Tre.del_eq _ _ _ _ hln hrn]
          have hps := Tre.pop_size hrn
          have hpo : (Tre.pop r).1.ok := Tr.oks hok HR.out _ (by rw [Tre.pop_list hrn]; exact List.mem_cons_self ..)
          have HF : Hid (∀ (X : World) (o' : Option Nat), BI X B (.pointer a) o' root had room zs 0 → Calls Try.prog 106 #[.pointer (some ⟨B, 0, none⟩), .int .i64 ib] X (BO2 B (.pointer a) o' root had room zs (3 * r.high) (Tre.pop r).1 (Tre.pop r).2 X)) := Lib.hid fun X o' hX => bfirst r X o' zs ib hX HR.out (by omega) hrn
          generalize Tre.pop r = pl at hps hpo HF ⊢
          obtain ⟨⟨pk, pw⟩, T⟩ := pl
          simp only at hps hpo HF ⊢
          go_enter Try.func67, Try.ntmps67
          go_wp2_with fail
          refine HC.out.mono ?_
          rintro e w1 ⟨rfl, hb⟩
          have J1 := Lib.hid (J0.out.below hb)
          have J2 : Hid (BS B (.pointer a) root had room w o (w1.alloc (boxC ⟨ia, ib, key, v, cs, ch⟩)) o zs 0 [(w1.heap.size, boxC ⟨ia, ib, key, v, cs, ch⟩)]) := Lib.hid (J1.out.alloc (boxC ⟨ia, ib, key, v, cs, ch⟩))
          clear hb J0 HC s0 s1 hgB
          go_wp2_with fail
          refine (HF.out _ _ J2.out.bi).mono ?_
          rintro e w3 ⟨R, hO, hlen, hs⟩
          obtain ⟨rfl, o3, J3⟩ := J2.out.call hs
          have hix := hO.idx
          have HO2 := Lib.hid (out_right (k := pk) (v := pw) (s := cs) (h := ch) hO HL.out (by omega) (by omega) hlen)
          clear hs hO J1 J2
          obtain ⟨zs1, why1, i1⟩ := R
          simp only at hix HO2 J3 hlen ⊢
          have J4 : Hid (BS B (.pointer a) root had room w o (w3.alloc (boxP ⟨pk, pw⟩)) o3 zs1 why1 [(w3.heap.size, boxP ⟨pk, pw⟩), (w1.heap.size, boxC ⟨ia, ib, key, v, cs, ch⟩)]) := Lib.hid (J3.out.alloc (boxP ⟨pk, pw⟩))
          go_upto_region 3 with fail
          have JD1 := Lib.hid J4.out.drew
          refine wp_region_held_drew (S := (fun X => (X.cell? ⟨w3.heap.size, 0, none⟩ = some (.int .i64 pk) ∧ X.cell? ⟨w3.heap.size, 1, none⟩ = some (.int .i64 pw)))) (by kernel_rfl) (JD1.out.boxp (List.mem_cons_self ..)) (fun hHeld0 => ?_)
          refine wpAnyH_take (i := 0) (v := ?_) rfl (by kernel_rfl) (by kernel_rfl) (by kernel_rfl) (fun _ _ _ h => h) (Or.inl ⟨by rfl, ?ywa1⟩) (by assumption) ?qwa1
          case ywa1 => (intro wz hSw; (try dsimp only at hSw); go_simp <;> with_reducible rfl)
          try simp only [Act.put, List.getElem_toArray, List.getElem_cons_zero, List.setIfInBounds_toArray, List.set_cons_zero, List.set_cons_succ]
          refine wpAnyH_take (i := 1) (v := ?_) rfl (by kernel_rfl) (by kernel_rfl) (by kernel_rfl) (fun _ _ _ h => h) (Or.inl ⟨by rfl, ?ywa2⟩) (by assumption) ?qwa2
          case ywa2 => (intro wz hSw; (try dsimp only at hSw); go_simp <;> with_reducible rfl)
          try simp only [Act.put, List.getElem_toArray, List.getElem_cons_zero, List.getElem_cons_succ, List.setIfInBounds_toArray, List.set_cons_zero, List.set_cons_succ]
          refine wpAnyH_take (i := 2) (v := ?_) rfl (by kernel_rfl) (by kernel_rfl) (by kernel_rfl) (fun _ _ _ h => h) (Or.inl ⟨by rfl, ?ywa3⟩) (by assumption) ?qwa3
          case ywa3 => (intro wz hSw; (try dsimp only at hSw); go_simp <;> with_reducible rfl)
          try simp only [Act.put, List.getElem_toArray, List.getElem_cons_zero, List.getElem_cons_succ, List.setIfInBounds_toArray, List.set_cons_zero, List.set_cons_succ]
          refine wpAnyH_take (i := 3) (v := ?_) rfl (by kernel_rfl) (by kernel_rfl) (by kernel_rfl) (fun _ _ _ h => h) (Or.inl ⟨by rfl, ?ywa4⟩) (by assumption) ?qwa4
          case ywa4 => (intro wz hSw; (try dsimp only at hSw); go_simp <;> with_reducible rfl)
          try simp only [Act.put, List.getElem_toArray, List.getElem_cons_zero, List.getElem_cons_succ, List.setIfInBounds_toArray, List.set_cons_zero, List.set_cons_succ]
          refine wpAnyH_take (i := 4) (v := ?_) rfl (by kernel_rfl) (by kernel_rfl) (by kernel_rfl) (fun _ _ _ h => h) (Or.inl ⟨by rfl, ?ywa5⟩) (by assumption) ?qwa5
          case ywa5 => (intro wz hSw; (try dsimp only at hSw); go_simp <;> with_reducible rfl)
          try simp only [Act.put, List.getElem_toArray, List.getElem_cons_zero, List.getElem_cons_succ, List.setIfInBounds_toArray, List.set_cons_zero, List.set_cons_succ]
          refine wpAnyH_take (i := 5) (v := ?_) rfl (by kernel_rfl) (by kernel_rfl) (by kernel_rfl) (fun _ _ _ h => h) (Or.inl ⟨by rfl, ?ywa6⟩) (by assumption) ?qwa6
          case ywa6 => (intro wz hSw; (try dsimp only at hSw); go_simp <;> with_reducible rfl)
          try simp only [Act.put, List.getElem_toArray, List.getElem_cons_zero, List.getElem_cons_succ, List.setIfInBounds_toArray, List.set_cons_zero, List.set_cons_succ]
          refine wpAnyH_ready (rs := [6]) (by kernel_rfl) (by simp) ?_
          refine AllReadyH.cons rfl (fun K hK => ?_) AllReadyH.nil
          have JHn2 := Lib.hid JD1.out.swap
          rw [if_pos (by rfl)]
          refine wp_store_fld (.tmp 28) (.tmp 24) rfl w1.heap.size 2 (pk) ⟨ia, ib, key, v, cs, ch⟩ ⟨ia, ib, pk, v, cs, ch⟩ (by decide) rfl rfl (JHn2.out.at_ (List.mem_cons_self ..)) rfl ?_
          intro wn2 hstn2
          have Jn2 : Hid (BS B (.pointer a) root had room w o wn2 o3 zs1 why1 [(w1.heap.size, boxC ⟨ia, ib, pk, v, cs, ch⟩), (w3.heap.size, boxP ⟨pk, pw⟩)]) := Lib.hid (JHn2.out.store hstn2)
          clear hstn2
          refine hK.out _ _ (Jn2.out.boxp (List.mem_cons_of_mem _ (List.mem_cons_self ..))) (fun hHeld7 => ?_)
          clear hK K
          try simp only [Act.put, List.getElem_toArray, List.getElem_cons_zero, List.getElem_cons_succ]
          refine wpAnyH_take (i := 7) (v := ?_) rfl (by kernel_rfl) (by kernel_rfl) (by kernel_rfl) (fun _ _ _ h => h) (Or.inl ⟨by rfl, ?ywa8⟩) (by assumption) ?qwa8
          case ywa8 => (intro wz hSw; (try dsimp only at hSw); go_simp <;> with_reducible rfl)
          try simp only [Act.put, List.getElem_toArray, List.getElem_cons_zero, List.getElem_cons_succ, List.setIfInBounds_toArray, List.set_cons_zero, List.set_cons_succ]
          refine wpAnyH_ready (rs := [8]) (by kernel_rfl) (by simp) ?_
          refine AllReadyH.cons rfl (fun K hK => ?_) AllReadyH.nil
          rw [if_pos (by rfl)]
          refine wp_store_fld (.tmp 29) (.tmp 26) rfl w1.heap.size 3 (pw) ⟨ia, ib, pk, v, cs, ch⟩ ⟨ia, ib, pk, pw, cs, ch⟩ (by decide) rfl rfl (Jn2.out.at_ (List.mem_cons_self ..)) rfl ?_
          intro wn3 hstn3
          have Jn3 : Hid (BS B (.pointer a) root had room w o wn3 o3 zs1 why1 [(w1.heap.size, boxC ⟨ia, ib, pk, pw, cs, ch⟩), (w3.heap.size, boxP ⟨pk, pw⟩)]) := Lib.hid (Jn2.out.store hstn3)
          clear hstn3
          refine hK.out _ _ (Jn3.out.boxp (List.mem_cons_of_mem _ (List.mem_cons_self ..))) (fun hHeld9 => ?_)
          clear hK K
          try simp only [Act.put, List.getElem_toArray, List.getElem_cons_zero, List.getElem_cons_succ]
          refine wpAnyH_take (i := 9) (v := ?_) rfl (by kernel_rfl) (by kernel_rfl) (by kernel_rfl) (fun _ _ _ h => h) (Or.inl ⟨by rfl, ?ywa10⟩) (by assumption) ?qwa10
          case ywa10 => (intro wz hSw; (try dsimp only at hSw); go_simp <;> with_reducible rfl)
          try simp only [Act.put, List.getElem_toArray, List.getElem_cons_zero, List.getElem_cons_succ, List.setIfInBounds_toArray, List.set_cons_zero, List.set_cons_succ]
          refine wpAnyH_ready (rs := [10]) (by kernel_rfl) (by simp) ?_
          refine AllReadyH.cons rfl (fun K hK => ?_) AllReadyH.nil
          rw [if_pos (by rfl)]
          refine wp_store_fld (.tmp 30) (.tmp 27) rfl w1.heap.size 1 (i1) ⟨ia, ib, pk, pw, cs, ch⟩ ⟨ia, i1, pk, pw, cs, ch⟩ (by decide) rfl rfl (Jn3.out.at_ (List.mem_cons_self ..)) rfl ?_
          intro wn4 hstn4
          have Jn4 : Hid (BS B (.pointer a) root had room w o wn4 o3 zs1 why1 [(w1.heap.size, boxC ⟨ia, i1, pk, pw, cs, ch⟩), (w3.heap.size, boxP ⟨pk, pw⟩)]) := Lib.hid (Jn3.out.store hstn4)
          clear hstn4
          refine hK.out _ _ (Jn4.out.boxp (List.mem_cons_of_mem _ (List.mem_cons_self ..))) (fun hHeld11 => ?_)
          clear hK K
          try simp only [Act.put, List.getElem_toArray, List.getElem_cons_zero, List.getElem_cons_succ]
          refine wpAnyH_done (by kernel_rfl) ?_ _
          have hgw := heap_lt (Jn4.out.at_ (List.mem_cons_self ..))
          obtain ⟨z0, z1, z2, z3, z4, z5⟩ := Jn4.out.box (List.mem_cons_self ..)
          go_wp2_with fail
          refine (blevel ⟨ia, i1, pk, pw, cs, ch⟩ Jn4.out.bi (by unfold fitC; simp only; omega) (by unfold Cel.ok at *; unfold Pai.ok at hpo; simp only at *; omega)).mono ?_
          intro e w4 hs
          have hl := hs.len
          obtain ⟨rfl, o4, J9⟩ := Jn4.out.call hs
          clear hs
          go_wp2_with fail
          go_ret
          exact BO.mono ⟨_, HO2.out, hl, J9.out.done _⟩ (by omega)
end Go.Proofs.Ytpmimngngehmlaa.F
