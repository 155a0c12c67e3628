/-
  Contract of the builder's with. Not a statement of the seat.
-/
import Derived.Test.YtpbkclciipmonaaPmLevel
import Derived.Test.YtpbkclciipmonaaHead3
namespace Go.Proofs.Ytpbkclciipmonaa.F
open Go.ChangeShapes Go.WideShapes Go.ChangeAt Go.RowKit Base
def boxP (p : Pai) : Obj := .cells #[.int .i64 p.k, .int .i64 p.v] 56
theorem cellsP {w : World} {g : Nat} {p : Pai} (h : w.heap[g]? = some (boxP p)) : g < w.heap.size ∧ w.cell? ⟨g, 0, none⟩ = some (.int .i64 p.k) ∧ w.cell? ⟨g, 1, none⟩ = some (.int .i64 p.v) := by
  refine ⟨heap_lt h, ?_⟩
  unfold boxP at h
  simp [World.cell?, h]
/-- The stored box, and the level behind it. -/
theorem lev_step {B : Nat} {a : Option Addr} {root had : Int} {room : Nat} {w0 w : World} {o0 o : Option Nat} {zs : List Cel} {why : Int} {bs : List (Nat × Obj)} {g : Nat} {c c' : Cel} {n : Nat} {T : Tre} {zs0 : List Cel} {W : World}
    (h : BS B (.pointer a) root had room w0 o0 w o zs why ((g, boxC c) :: bs)) (hs : Stored w g (boxC c') W) (hc : fitC c' zs.length) (hok : c'.ok) (hO : Out room zs0 n T (levelM room zs why c')) :
    Calls Try.prog 81 #[.pointer (some ⟨B, 0, none⟩), .agg #[.int .i64 c'.l, .int .i64 c'.r, .int .i64 c'.k, .int .i64 c'.v, .int .i64 c'.s, .int .i64 c'.h]] W fun e w' => ∃ v, e = .returned v ∧ Hid (BO B (.pointer a) o0 root had room zs0 n T w0 (.returned v) w') := by
  have h2 := h.store hs
  refine (blevel c' h2.bi hc hok).mono fun e w' hp => ?_
  obtain ⟨rfl, o', J⟩ := h2.call hp
  exact ⟨_, rfl, Lib.hid ⟨_, hO, hp.len, J.out.done _⟩⟩
theorem BO.mono {B : Nat} {pv : Value} {o : Option Nat} {root had : Int} {room : Nat} {zs : List Cel} {n m : Nat} {T : Tre} {w : World} {e : Ending} {w' : World} (h : BO B pv o root had room zs n T w e w') (hn : n ≤ m) : BO B pv o root had room zs m T w e w' := by
  obtain ⟨R, h1, h2, h3⟩ := h
  exact ⟨R, h1.mono hn, h2, h3⟩
set_option maxHeartbeats 8000000 in
set_option maxRecDepth 100000 in
theorem bwith {B : Nat} {pv : Value} {root had : Int} {room : Nat} (p : Pai) (hp : p.ok) : ∀ (t : Tre) (w : World) (o : Option Nat) (zs : List Cel) (i : Int), BI w B pv o root had room zs 0 → Tr zs t i → t.size ≤ 500000 →
    Calls Try.prog 61 #[.pointer (some ⟨B, 0, none⟩), .int .i64 i, .agg #[.int .i64 p.k, .int .i64 p.v]] w (BO B pv o root had room zs (3 * t.high + 1) (Tre.ins p.k p.v t) w) := by
  intro t
  induction t with
  | nil =>
    intro w o zs i h ht _
    simp only [Tr] at ht
    subst ht
    have hb1 : Below w.heap.size w (w.alloc (boxP p)) := (Below.refl _ _).alloc (Nat.le_refl _) _
    have HP := Lib.hid (bput ⟨0, 0, p.k, p.v, 0, 0⟩ (h.below hb1) (by unfold fitC; simp) (by unfold Cel.ok; unfold Pai.ok at hp; simp only; omega))
    have HO : Hid (Out room zs 1 (Tre.ins p.k p.v .nil) (putM room zs 0 ⟨0, 0, p.k, p.v, 0, 0⟩)) := Lib.hid (put_out (l := .nil) (r := .nil) h.2.le.1 rfl rfl (by decide) (by decide) (Nat.le_refl _))
    have J0 : Hid (BS B pv root had room w o (w.alloc (boxP p)) o zs 0 [(w.heap.size, boxP p)]) := Lib.hid ((BS.start h).alloc _)
    clear h hb1
    go_enter Try.func61, Try.ntmps61
    go_wp2_with fail
    refine HP.out.mono ?_
    intro e w1 hs
    have hl := hs.len
    obtain ⟨rfl, o1, J1⟩ := J0.out.call hs
    clear hs HP J0
    go_wp2_with fail
    go_ret
    exact ⟨_, HO.out, hl, J1.out.done _⟩
  | node l k v r ihl ihr =>
    intro w o zs i h ht hsz
    obtain ⟨a, rfl⟩ : ∃ a, pv = .pointer a := by
      rcases h.2 with ⟨rfl, _⟩ | ⟨b, rfl, _⟩
      · exact ⟨_, rfl⟩
      · exact ⟨_, rfl⟩
    obtain ⟨hi, ia, ib, hcel, hl, hr⟩ := ht
    have hso := h.2.oks
    have hco := celAt_ok hso i
    rw [hcel] at hco
    have hra := h.2.le
    simp only [Tre.size] at hsz
    have hnz : (i == 0) = false := by rw [beq_eq_false_iff_ne]; omega
    have J0 : Hid (BS B (.pointer a) root had room w o (w.alloc (boxP p)) o zs 0 [(w.heap.size, boxP p)]) := Lib.hid ((BS.start h).alloc _)
    have HC := Lib.hid (pmcell root i J0.out.bi.2)
    rw [hcel] at HC
    generalize ((Tre.node l k v r).size : Int) = cs at HC hco
    generalize ((Tre.node l k v r).high : Int) = ch at HC hco
    have IHL := Lib.hid ihl
    have IHR := Lib.hid ihr
    have HL := Lib.hid hl
    have HR := Lib.hid hr
    have hla := hl.le
    have hra2 := hr.le
    obtain ⟨hgB, ⟨s0, s1⟩, _⟩ := bcells h.1
    clear ihl ihr hl hr hcel h
    rcases (show p.k < k ∨ k < p.k ∨ p.k = k by omega) with hk | hk | hk
    · have HI : Hid (Tre.ins p.k p.v (.node l k v r) = Tre.lev (Tre.ins p.k p.v l) k v r) := Lib.hid (by simp only [Tre.ins, if_pos hk])
      have HB := Lib.hid (Tre.ins_size p.k p.v l)
      rw [HI.out]
      go_enter Try.func61, Try.ntmps61
      go_wp2_with fail
      refine HC.out.mono ?_
      rintro e w1 ⟨rfl, hb⟩
      have J1 := Lib.hid (J0.out.below hb)
      have J2 := Lib.hid (J1.out.alloc (boxC ⟨ia, ib, k, v, cs, ch⟩))
      clear hb J0 HC s0 s1 hgB
      obtain ⟨hgp, p0, p1⟩ := cellsP (J1.out.at_ (List.mem_cons_self ..))
      go_wp2_with fail
      refine (IHL.out _ _ _ _ J2.out.bi HL.out (by omega)).mono ?_
      rintro e w3 ⟨R, hO, hlen, hs⟩
      obtain ⟨rfl, o3, J3⟩ := J2.out.call hs
      have hix := hO.idx
      have HO2 := Lib.hid (out_left (k := k) (v := v) (s := cs) (h := ch) hO HR.out (by have := HB.out; omega) (by omega) hlen)
      obtain ⟨hgc, c0, c1, c2, c3, c4, c5⟩ := cellsC (J3.out.at_ (List.mem_cons_self ..))
      obtain ⟨f0, f1, f2, f3, f4, f5⟩ := frozC (J3.out.at_ (List.mem_cons_self ..))
      clear hs hO p0 p1 hgp J1 J2
      obtain ⟨zs1, why1, i1⟩ := R
      simp only at hix HO2 J3 hlen ⊢
      go_wp2_with fail
      refine (lev_step (c' := ⟨i1, ib, k, v, cs, ch⟩) J3.out (stored_l (J3.out.at_ (List.mem_cons_self ..)) _) (by unfold fitC; simp only; omega) (by unfold Cel.ok at *; simp only at *; omega) HO2.out).mono ?_
      rintro e w4 ⟨v4, rfl, H⟩
      go_wp2_with fail
      go_ret
      exact H.out.mono (by simp only [Tre.high]; omega)
    · have HI : Hid (Tre.ins p.k p.v (.node l k v r) = Tre.lev l k v (Tre.ins p.k p.v r)) := Lib.hid (by simp only [Tre.ins, if_neg (show ¬ p.k < k by omega), if_pos hk])
      have HB := Lib.hid (Tre.ins_size p.k p.v r)
      have hk1 : k ≤ p.k := by omega
      rw [HI.out]
      go_enter Try.func61, Try.ntmps61
      go_wp2_with fail
      refine HC.out.mono ?_
      rintro e w1 ⟨rfl, hb⟩
      have J1 := Lib.hid (J0.out.below hb)
      have J2 := Lib.hid (J1.out.alloc (boxC ⟨ia, ib, k, v, cs, ch⟩))
      clear hb J0 HC s0 s1 hgB
      obtain ⟨hgp, p0, p1⟩ := cellsP (J1.out.at_ (List.mem_cons_self ..))
      go_wp2_with fail
      refine (IHR.out _ _ _ _ J2.out.bi HR.out (by omega)).mono ?_
      rintro e w3 ⟨R, hO, hlen, hs⟩
      obtain ⟨rfl, o3, J3⟩ := J2.out.call hs
      have hix := hO.idx
      have HO2 := Lib.hid (out_right (k := k) (v := v) (s := cs) (h := ch) hO HL.out (by have := HB.out; omega) (by omega) hlen)
      obtain ⟨hgc, c0, c1, c2, c3, c4, c5⟩ := cellsC (J3.out.at_ (List.mem_cons_self ..))
      obtain ⟨f0, f1, f2, f3, f4, f5⟩ := frozC (J3.out.at_ (List.mem_cons_self ..))
      clear hs hO p0 p1 hgp J1 J2
      obtain ⟨zs1, why1, i1⟩ := R
      simp only at hix HO2 J3 hlen ⊢
      go_wp2_with fail
      refine (lev_step (c' := ⟨ia, i1, k, v, cs, ch⟩) J3.out (stored_r (J3.out.at_ (List.mem_cons_self ..)) _) (by unfold fitC; simp only; omega) (by unfold Cel.ok at *; simp only at *; omega) HO2.out).mono ?_
      rintro e w4 ⟨v4, rfl, H⟩
      go_wp2_with fail
      go_ret
      exact H.out.mono (by simp only [Tre.high]; omega)
    · have HI : Hid (Tre.ins p.k p.v (.node l k v r) = Tre.lev l k p.v r) := Lib.hid (by simp only [Tre.ins, if_neg (show ¬ p.k < k by omega), if_neg (show ¬ k < p.k by omega)])
      subst hk
      have hk1 : p.k ≤ p.k := Int.le_refl _
      rw [HI.out]
      go_enter Try.func61, Try.ntmps61
      go_wp2_with fail
      refine HC.out.mono ?_
      rintro e w1 ⟨rfl, hb⟩
      have J1 := Lib.hid (J0.out.below hb)
      have J2 := Lib.hid (J1.out.alloc (boxC ⟨ia, ib, p.k, v, cs, ch⟩))
      clear hb J0 HC s0 s1 hgB
      obtain ⟨hgp, p0, p1⟩ := cellsP (J1.out.at_ (List.mem_cons_self ..))
      go_wp2_with fail
      have J3 := Lib.hid (J1.out.alloc (boxC ⟨ia, ib, p.k, p.v, cs, ch⟩))
      have HO2 := Lib.hid (level_out (c := ⟨ia, ib, p.k, p.v, cs, ch⟩) hra.1 HL.out HR.out (by omega) (by omega))
      refine (blevel ⟨ia, ib, p.k, p.v, cs, ch⟩ J3.out.bi (by unfold fitC; simp only; omega) (by unfold Cel.ok at *; unfold Pai.ok at hp; simp only at *; omega)).mono ?_
      intro e w4 hs
      have hl := hs.len
      obtain ⟨rfl, o4, J4⟩ := J3.out.call hs
      clear hs
      go_wp2_with fail
      go_ret
      exact BO.mono ⟨_, HO2.out, hl, J4.out.done _⟩ (by simp only [Tre.high]; omega)
end Go.Proofs.Ytpbkclciipmonaa.F
