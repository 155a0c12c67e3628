/-
  Contracts of the editor's function values: Insert's, Set's, and join's. Not a statement of the seat.
-/
import Derived.Test.YtpbkclciipmonaaPsEos
namespace Go.Proofs.Ytpbkclciipmonaa.F
open Go.ChangeShapes Go.WideShapes Go.ChangeAt Go.RowKit Base
theorem EDS.perm {B : Nat} {pv : Value} {root had : Int} {room : Nat} {w0 w : World} {o0 o : Option Nat} {zs : List Cel} {why : Int} {bs cs : List (Nat × Obj)} (h : EDS B pv root had room w0 o0 w o zs why bs) (hp : bs.Perm cs) : EDS B pv root had room w0 o0 w o zs why cs :=
  ⟨h.1, h.2.1, h.2.2.1, fun q hq => h.2.2.2.1 q (hp.mem_iff.2 hq), hp.pairwise h.2.2.2.2 fun hab => Ne.symm hab⟩
theorem stored_int {w : World} {g : Nat} {x : Int} (y : Int) (hg : w.heap[g]? = some (boxI x)) : Stored w g (boxI y) (w.setCell ⟨g, 0, none⟩ (.int .i64 y)) := by
  unfold boxI at hg ⊢
  refine ⟨rfl, rfl, rfl, by simp [World.setCell], ?_, fun k hk => ?_⟩
  · simp [World.setCell, Array.getElem?_modify, hg]
  · simp [World.setCell, Array.getElem?_modify, Ne.symm hk]
/-- The leftmost cell's number. -/
theorem EDS.tail2 {B : Nat} {pv : Value} {root had : Int} {room : Nat} {w0 w : World} {o0 o : Option Nat} {zs : List Cel} {why : Int} {p : Nat × Obj} {bs : List (Nat × Obj)} (h : EDS B pv root had room w0 o0 w o zs why (p :: bs)) : EDS B pv root had room w0 o0 w o zs why bs := EDS.tail h
section
variable {B : Nat} {a : Option Addr} {root had : Int} {room : Nat} {W0 : World} {O0 : Option Nat} {zs : List Cel}
set_option maxRecDepth 100000 in
set_option maxHeartbeats 4000000 in
theorem ins1_any {w : World} {o : Option Nat} {bs : List (Nat × Obj)} (c : Cel) (ge gv : Nat) (val : Int) (hvb : -9223372036854775808 ≤ val ∧ val ≤ 9223372036854775807) (h : EDS B (.pointer a) root had room W0 O0 w o zs 0 bs) (he : (ge, boxE B) ∈ bs) (hv : (gv, boxI val) ∈ bs) :
    Calls Try.prog 51 #[celV c, .pointer (some ⟨ge, 0, none⟩), .pointer (some ⟨gv, 0, none⟩)] w (EOS B (.pointer a) root had room W0 O0 zs 1 (.node .nil 0 val .nil) bs) := by
  have J1 := Lib.hid (h.alloc (boxC c))
  have HPT : Hid (∀ X o, EDI X B (.pointer a) o root had room zs 0 → Calls Try.prog 52 #[.pointer (some ⟨B, 0, none⟩), .int .i64 0, .int .i64 val, .int .i64 0] X (EDP B (.pointer a) o root had room (putM room zs 0 ⟨0, 0, 0, val, 0, 0⟩).1 (putM room zs 0 ⟨0, 0, 0, val, 0, 0⟩).2.1 (.int .i64 (putM room zs 0 ⟨0, 0, 0, val, 0, 0⟩).2.2) X)) := Lib.hid fun X o hX => eput 0 val 0 hX (by unfold fitC; simp only; omega) (by unfold Cel.ok; simp only; omega)
  have HOZ := Lib.hid (outZ_put (val := val) h.1.2.le.1 (show Tr zs .nil 0 from rfl) (show Tr zs .nil 0 from rfl) (by decide) (by decide))
  have ce := (cellsE (J1.out.at_ (List.mem_cons_of_mem _ he))).2
  have cv := (cellsI (J1.out.at_ (List.mem_cons_of_mem _ hv))).2.1
  generalize putM room zs 0 ⟨0, 0, 0, val, 0, 0⟩ = R at HPT HOZ
  unfold celV
  unfold boxC at J1 ce cv
  clear h he hv hvb
  go_enter Try.func51, Try.ntmps51
  go_wp2_with fail
  refine (HPT.out _ _ J1.out.bi).mono ?_
  intro e w1 hs
  have HLN := Lib.hid hs.len
  obtain ⟨rfl, o1, J2⟩ := J1.out.call hs
  clear hs ce cv J1 HPT
  go_wp2_with fail
  go_ret
  exact ⟨R, o1, HOZ.out, HLN.out, rfl, J2.out.tail⟩
set_option maxRecDepth 100000 in
set_option maxHeartbeats 4000000 in
theorem set1_any {w : World} {o : Option Nat} {bs : List (Nat × Obj)} {l r : Tre} {v j : Int} (ge gv : Nat) (val : Int) (hvb : -9223372036854775808 ≤ val ∧ val ≤ 9223372036854775807) (h : EDS B (.pointer a) root had room W0 O0 w o zs 0 bs) (he : (ge, boxE B) ∈ bs) (hv : (gv, boxI val) ∈ bs) (ht : Tr zs (.node l 0 v r) j) (h1 : l.size ≤ 1000000) (h2 : r.size ≤ 1000000) :
    Calls Try.prog 72 #[celV (celAt zs j), .pointer (some ⟨ge, 0, none⟩), .pointer (some ⟨gv, 0, none⟩)] w (EOS B (.pointer a) root had room W0 O0 zs 1 (.node l 0 val r) bs) := by
  obtain ⟨_, ia, ib, hc, hl, hr⟩ := ht
  rw [hc]
  generalize ((Tre.node l 0 v r).size : Int) = cs
  generalize ((Tre.node l 0 v r).high : Int) = ch
  clear hc
  have hla := hl.le
  have hra := hr.le
  have J1 := Lib.hid (h.alloc (boxC ⟨ia, ib, 0, v, cs, ch⟩))
  have HPT : Hid (∀ X o, EDI X B (.pointer a) o root had room zs 0 → Calls Try.prog 52 #[.pointer (some ⟨B, 0, none⟩), .int .i64 ia, .int .i64 val, .int .i64 ib] X (EDP B (.pointer a) o root had room (putM room zs 0 ⟨ia, ib, 0, val, 0, 0⟩).1 (putM room zs 0 ⟨ia, ib, 0, val, 0, 0⟩).2.1 (.int .i64 (putM room zs 0 ⟨ia, ib, 0, val, 0, 0⟩).2.2) X)) := Lib.hid fun X o hX => eput ia val ib hX (by unfold fitC; simp only; omega) (by have := h.1.2.le; unfold Cel.ok; simp only; omega)
  have HOZ := Lib.hid (outZ_put (val := val) h.1.2.le.1 hl hr h1 h2)
  have ce := (cellsE (J1.out.at_ (List.mem_cons_of_mem _ he))).2
  have cv := (cellsI (J1.out.at_ (List.mem_cons_of_mem _ hv))).2.1
  obtain ⟨c0, c1, _⟩ := J1.out.box (List.mem_cons_self ..)
  generalize putM room zs 0 ⟨ia, ib, 0, val, 0, 0⟩ = R at HPT HOZ
  unfold celV
  unfold boxC at J1 ce cv c0 c1
  dsimp only at J1 ce cv c0 c1 ⊢
  clear h he hv hvb hl hr hla hra h1 h2
  go_enter Try.func72, Try.ntmps72
  go_wp2_with fail
  refine (HPT.out _ _ J1.out.bi).mono ?_
  intro e w1 hs
  have HLN := Lib.hid hs.len
  obtain ⟨rfl, o1, J2⟩ := J1.out.call hs
  clear hs ce cv J1 HPT c0 c1
  go_wp2_with fail
  go_ret
  exact ⟨R, o1, HOZ.out, HLN.out, rfl, J2.out.tail⟩
set_option maxRecDepth 100000 in
set_option maxHeartbeats 4000000 in
theorem join1_any {w : World} {o : Option Nat} {ex bs : List (Nat × Obj)} {l r : Tre} {v j x : Int} (gf : Nat) (h : EDS B (.pointer a) root had room W0 O0 w o zs 0 (ex ++ (gf, boxI x) :: bs)) (ht : Tr zs (.node l 0 v r) j) :
    Calls Try.prog 78 #[celV (celAt zs j), .pointer (some ⟨gf, 0, none⟩)] w (EOS B (.pointer a) root had room W0 O0 zs 0 r (ex ++ (gf, boxI v) :: bs)) := by
  obtain ⟨_, ia, ib, hc, hl, hr⟩ := ht
  rw [hc]
  generalize ((Tre.node l 0 v r).size : Int) = cs
  generalize ((Tre.node l 0 v r).high : Int) = ch
  clear hc
  have hlen := h.1.2.le.1
  have J1 : Hid (EDS B (.pointer a) root had room W0 O0 (w.alloc (boxC ⟨ia, ib, 0, v, cs, ch⟩)) o zs 0 ((gf, boxI x) :: (w.heap.size, boxC ⟨ia, ib, 0, v, cs, ch⟩) :: (ex ++ bs))) := Lib.hid ((h.alloc (boxC ⟨ia, ib, 0, v, cs, ch⟩)).perm (by
    refine (List.Perm.cons _ List.perm_middle).trans ?_
    exact List.Perm.swap _ _ _))
  obtain ⟨_, cf, ff⟩ := cellsI (J1.out.at_ (List.mem_cons_self ..))
  obtain ⟨c0, c1, c2, c3, _⟩ := J1.out.box (List.mem_cons_of_mem _ (List.mem_cons_self ..))
  have J2 : Hid (EDS B (.pointer a) root had room W0 O0 ((w.alloc (boxC ⟨ia, ib, 0, v, cs, ch⟩)).setCell ⟨gf, 0, none⟩ (.int .i64 v)) o zs 0 ((gf, boxI v) :: (w.heap.size, boxC ⟨ia, ib, 0, v, cs, ch⟩) :: (ex ++ bs))) := Lib.hid (J1.out.store (stored_int v (J1.out.at_ (List.mem_cons_self ..))))
  obtain ⟨d0, d1, d2, d3, _⟩ := J2.out.box (List.mem_cons_of_mem _ (List.mem_cons_self ..))
  have J3 : Hid (EDS B (.pointer a) root had room W0 O0 ((w.alloc (boxC ⟨ia, ib, 0, v, cs, ch⟩)).setCell ⟨gf, 0, none⟩ (.int .i64 v)) o zs 0 (ex ++ (gf, boxI v) :: bs)) := Lib.hid (((J2.out.swap).tail).perm List.perm_middle.symm)
  have HO : Hid (OutZ room zs 0 r (zs, 0, ib)) := Lib.hid ⟨⟨[], by simp, .inl ⟨rfl, hr, by simp⟩⟩, fun e => by cases e⟩
  have HLN := Lib.hid hlen
  unfold celV
  unfold boxC at J1 J2 J3 cf ff c0 c1 c2 c3 d0 d1 d2 d3
  dsimp only at cf ff c0 c1 c2 c3 d0 d1 d2 d3 ⊢
  clear h hl hr hlen c0 c2 d0 d2 J1 J2
  go_enter Try.func78, Try.ntmps78
  go_wp2_with fail
  go_ret
  exact ⟨(zs, 0, ib), o, HO.out, HLN.out, rfl, J3.out⟩
end
end Go.Proofs.Ytpbkclciipmonaa.F
