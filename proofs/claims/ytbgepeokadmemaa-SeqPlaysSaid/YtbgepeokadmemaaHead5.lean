/-
  Contracts of small functions, several texts laid into one. Not a statement of the seat.
-/
import Derived.Test.YtbgepeokadmemaaPsEos
import Derived.Test.YtbgepeokadmemaaHead3
import Derived.Test.YtbgepeokadmemaaPsChg
namespace Go.Proofs.Ytbgepeokadmemaa.F
open Go.ChangeShapes Go.WideShapes Go.ChangeAt Go.RowKit Base
/-- What stands at a place. -/
def atV : Tre → Int → Int × Bool
  | .nil, _ => (0, false)
  | .node l _ v r, i => if i < (l.size : Int) then atV l i else if (l.size : Int) < i then atV r (i - ((l.size : Int) + 1)) else (v, true)
theorem atV_vals : ∀ (t : Tre) (i : Int), atV t i = if 0 ≤ i ∧ i < (t.size : Int) then (t.vals.getD i.toNat 0, true) else (0, false)
  | .nil, i => by
    rw [if_neg (by simp only [Tre.size]; omega)]; rfl
  | .node l k v r, i => by
    show (if i < (l.size : Int) then atV l i else if (l.size : Int) < i then atV r (i - ((l.size : Int) + 1)) else (v, true)) = if 0 ≤ i ∧ i < ((l.size + 1 + r.size : Nat) : Int) then ((l.vals ++ v :: r.vals).getD i.toNat 0, true) else (0, false)
    have hl := l.vals_len
    split
    · rename_i h1
      rw [atV_vals l i]
      by_cases h0 : 0 ≤ i
      · rw [if_pos ⟨h0, h1⟩, if_pos (by omega), List.getD_eq_getElem?_getD, List.getD_eq_getElem?_getD, List.getElem?_append_left (by omega)]
      · rw [if_neg (by omega), if_neg (by omega)]
    · rename_i h1
      split
      · rename_i h2
        rw [atV_vals r]
        by_cases h3 : i - ((l.size : Int) + 1) < (r.size : Int)
        · rw [if_pos (by omega), if_pos (by omega), List.getD_eq_getElem?_getD, List.getD_eq_getElem?_getD, List.getElem?_append_right (by omega), hl, show i.toNat - l.size = (i - ((l.size : Int) + 1)).toNat + 1 by omega, List.getElem?_cons_succ]
        · rw [if_neg (by omega), if_neg (by omega)]
      · rw [if_pos (by omega), List.getD_eq_getElem?_getD, List.getElem?_append_right (by omega), hl, show i.toNat - l.size = 0 by omega]
        rfl
set_option maxHeartbeats 8000000 in
set_option maxRecDepth 100000 in
theorem psat {pv : Value} {o : Option Nat} {room : Nat} {zs : List Cel} {w : World} {t : Tre} {root : Int} (key : Int) (h : ArV w pv o room zs) (ht : Tr zs t root) (hkb : -9223372036854775808 ≤ key ∧ key ≤ 9223372036854775807) : Calls Try.prog 13 #[.agg #[pv, .int .i64 root], .int .i64 key] w (IntBoolM (atV t key).1 (atV t key).2 w) := by
  obtain ⟨a, rfl⟩ := h.ptr
  have HI : Hid (∀ X, Below (w.alloc (boxS (.pointer a) root)).heap.size (w.alloc (boxS (.pointer a) root)) X → (X.cell? ⟨w.heap.size, 0, none⟩ = some (.pointer a) ∧ X.cell? ⟨w.heap.size, 1, none⟩ = some (.int .i64 root)) ∧ ArV X (.pointer a) o room zs ∧ w.heap.size < X.heap.size ∧ Below w.heap.size w X) := Lib.hid fun X hX => by
    have hb : Below w.heap.size w (w.alloc (boxS (.pointer a) root)) := (Below.refl _ _).alloc (Nat.le_refl _) _
    have hm := (hX.block w.heap.size (by simp)).trans (heap_alloc_at _ _ _ rfl)
    exact ⟨(cellsS hm).2, (h.below hb).below hX, heap_lt hm, hb.trans (hX.mono hb.size)⟩
  have HK := Lib.hid h.bk
  have HT := Lib.hid ht
  have hle := h.le
  clear h ht
  obtain ⟨rv, rb, hres⟩ : ∃ rv rb, atV t key = (rv, rb) := ⟨_, _, rfl⟩
  rw [hres]
  have HR := Lib.hid hres
  have HKB := Lib.hid hkb
  have hf := fld_s
  clear hres hkb
  go_enter Try.func13, Try.ntmps13
  go_wp2_with fail
  go_loopw [1, 6] (fun s1 s6 wr => ∃ (i : Int) (n : Int) (t' : Tre), s6 = .int .i64 i ∧ s1 = .int .i64 n ∧ (-9223372036854775808 ≤ n ∧ n ≤ 9223372036854775807) ∧ 0 ≤ i ∧ Hid (Tr zs t' i ∧ atV t' n = (rv, rb) ∧ Below (w.alloc (boxS (.pointer a) root)).heap.size (w.alloc (boxS (.pointer a) root)) wr)) (fun _ s6 _ => (intOf s6).toNat)
  case atStart => exact ⟨root, key, t, rfl, rfl, HKB.out, HT.out.le.1, Lib.hid ⟨HT.out, HR.out, Below.refl _ _⟩⟩
  case round =>
    obtain ⟨i, n, t', rfl, rfl, hn, hi0, J⟩ := hrel
    obtain ⟨⟨m0, m1⟩, hA, hwl, hBl⟩ := HI.out _ J.out.2.2
    have HA := Lib.hid hA
    have HBl := Lib.hid hBl
    clear hA hBl
    cases t' with
    | nil =>
      have hi : i = 0 := J.out.1
      have hr : (rv, rb) = (0, false) := J.out.2.1.symm
      injection hr with h1 h2
      subst hi h1 h2
      go_wp2_with fail
      go_ret2
      exact ⟨rfl, HBl.out⟩
    | node l k v r =>
      obtain ⟨hi, ia, ib, hcel, hl, hr⟩ := J.out.1
      have hdn := Tr.down HK.out hi hcel
      have hHC := pscell root i HA.out
      rw [hcel] at hHC
      have HC := Lib.hid hHC
      have hia := hl.le.1
      have hib := hr.le.1
      have HL := Lib.hid hl
      have HRR := Lib.hid hr
      have HLK := Lib.hid (show (if n < (l.size : Int) then atV l n else if (l.size : Int) < n then atV r (n - ((l.size : Int) + 1)) else (v, true)) = (rv, rb) from J.out.2.1)
      have hnz : (i == 0) = false := by rw [beq_eq_false_iff_ne]; omega
      generalize ((Tre.node l k v r).size : Int) = cs at HC
      generalize ((Tre.node l k v r).high : Int) = ch at HC
      clear hcel hl hr hHC
      go_wp2_with fail
      refine HC.out.mono ?_
      rintro e w1 ⟨rfl, hb⟩
      have J1 : Hid (Below (w.alloc (boxS (.pointer a) root)).heap.size (w.alloc (boxS (.pointer a) root)) (w1.alloc (boxC ⟨ia, ib, k, v, cs, ch⟩))) := Lib.hid ((J.out.2.2.trans (hb.mono J.out.2.2.size)).alloc (Nat.le_trans J.out.2.2.size hb.size) _)
      have J10 := Lib.hid (J.out.2.2.trans (hb.mono J.out.2.2.size))
      clear hb HC m0 m1 hwl
      obtain ⟨⟨m0, m1⟩, _, hwl, _⟩ := HI.out _ J10.out
      have hsl : (celAt zs ia).s = (l.size : Int) := HL.out.root.1
      have HC2 := Lib.hid (pscell root ia (HI.out _ J1.out).2.1)
      generalize celAt zs ia = cx at hsl HC2
      obtain ⟨x1, x2, x3, x4, x5, x6⟩ := cx
      simp only at hsl
      subst hsl
      go_wp2_with fail
      refine HC2.out.mono ?_
      rintro e w2 ⟨rfl, hb⟩
      have J2 := Lib.hid (J1.out.trans (hb.mono J1.out.size))
      have hbx : w2.heap[w1.heap.size]? = some (boxC ⟨ia, ib, k, v, cs, ch⟩) := (hb.block _ (by simp)).trans (heap_alloc_at _ _ _ rfl)
      obtain ⟨hgx, c0, c1, c2, c3, c4, c5⟩ := cellsC hbx
      clear hb HC2 hbx m0 m1
      by_cases k1 : n < (l.size : Int)
      · have HN2 : Hid (atV l n = (rv, rb)) := Lib.hid (by have h := HLK.out; rwa [if_pos k1] at h)
        go_wp2_with fail
        go_roundw
        case rel => exact ⟨ia, n, l, rfl, rfl, hn, hia, Lib.hid ⟨HL.out, HN2.out, J2.out⟩⟩
        case measure => simp [intOf]; omega
      · by_cases k2 : (l.size : Int) < n
        · have HN2 : Hid (atV r (n - ((l.size : Int) + 1)) = (rv, rb)) := Lib.hid (by have h := HLK.out; rwa [if_neg k1, if_pos k2] at h)
          go_wp2_with fail
          go_roundw
          case rel => exact ⟨ib, n - ((l.size : Int) + 1), r, rfl, rfl, by omega, hib, Lib.hid ⟨HRR.out, HN2.out, J2.out⟩⟩
          case measure => simp [intOf]; omega
        · have hn2 : (v, true) = (rv, rb) := by have h := HLK.out; rwa [if_neg k1, if_neg k2] at h
          injection hn2 with h1 h2
          subst h1 h2
          go_wp2_with fail
          go_ret2
          exact ⟨rfl, (HI.out _ J2.out).2.2.2⟩
end Go.Proofs.Ytbgepeokadmemaa.F
namespace Go.Proofs.Ytbgepeokadmemaa.F
open Go.ChangeShapes Go.WideShapes Go.ChangeAt Go.RowKit Base
theorem EDS.perm {B : Nat} {pv : Value} {root had : Int} {room : Nat} {w0 w : World} {o0 o : Option Nat} {zs : List Cel} {why : Int} {bs cs : List (Nat × Obj)} (h : EDS B pv root had room w0 o0 w o zs why bs) (hp : bs.Perm cs) : EDS B pv root had room w0 o0 w o zs why cs :=
  ⟨h.1, h.2.1, h.2.2.1, fun q hq => h.2.2.2.1 q (hp.mem_iff.2 hq), hp.pairwise h.2.2.2.2 fun hab => Ne.symm hab⟩
theorem stored_int {w : World} {g : Nat} {x : Int} (y : Int) (hg : w.heap[g]? = some (boxI x)) : Stored w g (boxI y) (w.setCell ⟨g, 0, none⟩ (.int .i64 y)) := by
  unfold boxI at hg ⊢
  refine ⟨rfl, rfl, rfl, by simp [World.setCell], ?_, fun k hk => ?_⟩
  · simp [World.setCell, Array.getElem?_modify, hg]
  · simp [World.setCell, Array.getElem?_modify, Ne.symm hk]
/-- The leftmost cell's number. -/
theorem EDS.tail2 {B : Nat} {pv : Value} {root had : Int} {room : Nat} {w0 w : World} {o0 o : Option Nat} {zs : List Cel} {why : Int} {p : Nat × Obj} {bs : List (Nat × Obj)} (h : EDS B pv root had room w0 o0 w o zs why (p :: bs)) : EDS B pv root had room w0 o0 w o zs why bs := EDS.tail h
section
variable {B : Nat} {a : Option Addr} {root had : Int} {room : Nat} {W0 : World} {O0 : Option Nat} {zs : List Cel}
set_option maxRecDepth 100000 in
set_option maxHeartbeats 4000000 in
theorem ins1_any {w : World} {o : Option Nat} {bs : List (Nat × Obj)} (c : Cel) (ge gv : Nat) (val : Int) (hvb : -9223372036854775808 ≤ val ∧ val ≤ 9223372036854775807) (h : EDS B (.pointer a) root had room W0 O0 w o zs 0 bs) (he : (ge, boxE B) ∈ bs) (hv : (gv, boxI val) ∈ bs) :
    Calls Try.prog 34 #[celV c, .pointer (some ⟨ge, 0, none⟩), .pointer (some ⟨gv, 0, none⟩)] w (EOS B (.pointer a) root had room W0 O0 zs 1 (.node .nil 0 val .nil) bs) := by
  have J1 := Lib.hid (h.alloc (boxC c))
  have HPT : Hid (∀ X o, EDI X B (.pointer a) o root had room zs 0 → Calls Try.prog 35 #[.pointer (some ⟨B, 0, none⟩), .int .i64 0, .int .i64 val, .int .i64 0] X (EDP B (.pointer a) o root had room (putM room zs 0 ⟨0, 0, 0, val, 0, 0⟩).1 (putM room zs 0 ⟨0, 0, 0, val, 0, 0⟩).2.1 (.int .i64 (putM room zs 0 ⟨0, 0, 0, val, 0, 0⟩).2.2) X)) := Lib.hid fun X o hX => eput 0 val 0 hX (by unfold fitC; simp only; omega) (by unfold Cel.ok; simp only; omega)
  have HOZ := Lib.hid (outZ_put (val := val) h.1.2.le.1 (show Tr zs .nil 0 from rfl) (show Tr zs .nil 0 from rfl) (by decide) (by decide))
  have ce := (cellsE (J1.out.at_ (List.mem_cons_of_mem _ he))).2
  have cv := (cellsI (J1.out.at_ (List.mem_cons_of_mem _ hv))).2.1
  generalize putM room zs 0 ⟨0, 0, 0, val, 0, 0⟩ = R at HPT HOZ
  unfold celV
  unfold boxC at J1 ce cv
  clear h he hv hvb
  go_enter Try.func34, Try.ntmps34
  go_wp2_with fail
  refine (HPT.out _ _ J1.out.bi).mono ?_
  intro e w1 hs
  have HLN := Lib.hid hs.len
  obtain ⟨rfl, o1, J2⟩ := J1.out.call hs
  clear hs ce cv J1 HPT
  go_wp2_with fail
  go_ret
  exact ⟨R, o1, HOZ.out, HLN.out, rfl, J2.out.tail⟩
set_option maxRecDepth 100000 in
set_option maxHeartbeats 4000000 in
theorem set1_any {w : World} {o : Option Nat} {bs : List (Nat × Obj)} {l r : Tre} {v j : Int} (ge gv : Nat) (val : Int) (hvb : -9223372036854775808 ≤ val ∧ val ≤ 9223372036854775807) (h : EDS B (.pointer a) root had room W0 O0 w o zs 0 bs) (he : (ge, boxE B) ∈ bs) (hv : (gv, boxI val) ∈ bs) (ht : Tr zs (.node l 0 v r) j) (h1 : l.size ≤ 1000000) (h2 : r.size ≤ 1000000) :
    Calls Try.prog 38 #[celV (celAt zs j), .pointer (some ⟨ge, 0, none⟩), .pointer (some ⟨gv, 0, none⟩)] w (EOS B (.pointer a) root had room W0 O0 zs 1 (.node l 0 val r) bs) := by
  obtain ⟨_, ia, ib, hc, hl, hr⟩ := ht
  rw [hc]
  generalize ((Tre.node l 0 v r).size : Int) = cs
  generalize ((Tre.node l 0 v r).high : Int) = ch
  clear hc
  have hla := hl.le
  have hra := hr.le
  have J1 := Lib.hid (h.alloc (boxC ⟨ia, ib, 0, v, cs, ch⟩))
  have HPT : Hid (∀ X o, EDI X B (.pointer a) o root had room zs 0 → Calls Try.prog 35 #[.pointer (some ⟨B, 0, none⟩), .int .i64 ia, .int .i64 val, .int .i64 ib] X (EDP B (.pointer a) o root had room (putM room zs 0 ⟨ia, ib, 0, val, 0, 0⟩).1 (putM room zs 0 ⟨ia, ib, 0, val, 0, 0⟩).2.1 (.int .i64 (putM room zs 0 ⟨ia, ib, 0, val, 0, 0⟩).2.2) X)) := Lib.hid fun X o hX => eput ia val ib hX (by unfold fitC; simp only; omega) (by have := h.1.2.le; unfold Cel.ok; simp only; omega)
  have HOZ := Lib.hid (outZ_put (val := val) h.1.2.le.1 hl hr h1 h2)
  have ce := (cellsE (J1.out.at_ (List.mem_cons_of_mem _ he))).2
  have cv := (cellsI (J1.out.at_ (List.mem_cons_of_mem _ hv))).2.1
  obtain ⟨c0, c1, _⟩ := J1.out.box (List.mem_cons_self ..)
  generalize putM room zs 0 ⟨ia, ib, 0, val, 0, 0⟩ = R at HPT HOZ
  unfold celV
  unfold boxC at J1 ce cv c0 c1
  dsimp only at J1 ce cv c0 c1 ⊢
  clear h he hv hvb hl hr hla hra h1 h2
  go_enter Try.func38, Try.ntmps38
  go_wp2_with fail
  refine (HPT.out _ _ J1.out.bi).mono ?_
  intro e w1 hs
  have HLN := Lib.hid hs.len
  obtain ⟨rfl, o1, J2⟩ := J1.out.call hs
  clear hs ce cv J1 HPT c0 c1
  go_wp2_with fail
  go_ret
  exact ⟨R, o1, HOZ.out, HLN.out, rfl, J2.out.tail⟩
set_option maxRecDepth 100000 in
set_option maxHeartbeats 4000000 in
theorem join1_any {w : World} {o : Option Nat} {ex bs : List (Nat × Obj)} {l r : Tre} {v j x : Int} (gf : Nat) (h : EDS B (.pointer a) root had room W0 O0 w o zs 0 (ex ++ (gf, boxI x) :: bs)) (ht : Tr zs (.node l 0 v r) j) :
    Calls Try.prog 47 #[celV (celAt zs j), .pointer (some ⟨gf, 0, none⟩)] w (EOS B (.pointer a) root had room W0 O0 zs 0 r (ex ++ (gf, boxI v) :: bs)) := by
  obtain ⟨_, ia, ib, hc, hl, hr⟩ := ht
  rw [hc]
  generalize ((Tre.node l 0 v r).size : Int) = cs
  generalize ((Tre.node l 0 v r).high : Int) = ch
  clear hc
  have hlen := h.1.2.le.1
  have J1 : Hid (EDS B (.pointer a) root had room W0 O0 (w.alloc (boxC ⟨ia, ib, 0, v, cs, ch⟩)) o zs 0 ((gf, boxI x) :: (w.heap.size, boxC ⟨ia, ib, 0, v, cs, ch⟩) :: (ex ++ bs))) := Lib.hid ((h.alloc (boxC ⟨ia, ib, 0, v, cs, ch⟩)).perm (by
    refine (List.Perm.cons _ List.perm_middle).trans ?_
    exact List.Perm.swap _ _ _))
  obtain ⟨_, cf, ff⟩ := cellsI (J1.out.at_ (List.mem_cons_self ..))
  obtain ⟨c0, c1, c2, c3, _⟩ := J1.out.box (List.mem_cons_of_mem _ (List.mem_cons_self ..))
  have J2 : Hid (EDS B (.pointer a) root had room W0 O0 ((w.alloc (boxC ⟨ia, ib, 0, v, cs, ch⟩)).setCell ⟨gf, 0, none⟩ (.int .i64 v)) o zs 0 ((gf, boxI v) :: (w.heap.size, boxC ⟨ia, ib, 0, v, cs, ch⟩) :: (ex ++ bs))) := Lib.hid (J1.out.store (stored_int v (J1.out.at_ (List.mem_cons_self ..))))
  obtain ⟨d0, d1, d2, d3, _⟩ := J2.out.box (List.mem_cons_of_mem _ (List.mem_cons_self ..))
  have J3 : Hid (EDS B (.pointer a) root had room W0 O0 ((w.alloc (boxC ⟨ia, ib, 0, v, cs, ch⟩)).setCell ⟨gf, 0, none⟩ (.int .i64 v)) o zs 0 (ex ++ (gf, boxI v) :: bs)) := Lib.hid (((J2.out.swap).tail).perm List.perm_middle.symm)
  have HO : Hid (OutZ room zs 0 r (zs, 0, ib)) := Lib.hid ⟨⟨[], by simp, .inl ⟨rfl, hr, by simp⟩⟩, fun e => by cases e⟩
  have HLN := Lib.hid hlen
  unfold celV
  unfold boxC at J1 J2 J3 cf ff c0 c1 c2 c3 d0 d1 d2 d3
  dsimp only at cf ff c0 c1 c2 c3 d0 d1 d2 d3 ⊢
  clear h hl hr hlen c0 c2 d0 d2 J1 J2
  go_enter Try.func47, Try.ntmps47
  go_wp2_with fail
  go_ret
  exact ⟨(zs, 0, ib), o, HO.out, HLN.out, rfl, J3.out⟩
end
end Go.Proofs.Ytbgepeokadmemaa.F
namespace Go.Proofs.Ytbgepeokadmemaa.F
open Go.ChangeShapes Go.WideShapes Go.ChangeAt Go.RowKit Go.Shelf Base
/-- What join's function value makes: the cell goes, what is to its right stays. -/
def popF : Tre → Tre
  | .nil => .nil
  | .node _ _ _ r => r
theorem popF_size (t : Tre) : (popF t).size ≤ t.size + 1 := by cases t <;> simp only [popF, Tre.size] <;> omega
theorem popF_k0 (t : Tre) (h : K0 t) : K0 (popF t) := by
  cases t with
  | nil => exact h
  | node => exact h.2.2
theorem pop_chg : ∀ {t : Tre}, K0 t → t ≠ .nil → Tre.chg popF 1 t = (Tre.pop t).2 ∧ ∃ r, subT 1 t = .node .nil 0 (Tre.pop t).1.v r
  | .nil, _, h => absurd rfl h
  | .node .nil k v r, hk, _ => by
    obtain ⟨rfl, _, _⟩ := hk
    exact ⟨by simp [Tre.chg, Tre.size, popF, Tre.pop], r, by simp [subT, Tre.size, Tre.pop]⟩
  | .node (.node a b c d) k v r, hk, _ => by
    have ih := pop_chg (t := .node a b c d) hk.2.1 (by simp)
    obtain ⟨rfl, _, _⟩ := hk
    have hs : (1 : Int) < 2 * ((Tre.node a b c d).size : Int) + 1 := by simp only [Tre.size]; omega
    rw [Tre.pop_node _ _ _ _ (by simp)]
    refine ⟨?_, ?_⟩
    · rw [Tre.chg, if_pos hs, ih.1]
    · rw [subT, if_pos hs]; exact ih.2
theorem tr_sub {zs : List Cel} : ∀ {t : Tre} {i : Int} (s : Int), Tr zs t i → ∃ j, Tr zs (subT s t) j
  | .nil, i, s, h => ⟨i, h⟩
  | .node l k v r, i, s, h => by
    have h0 := h
    obtain ⟨hi, a, b, hc, hl, hr⟩ := h
    rw [subT]
    split
    · exact tr_sub s hl
    · split
      · exact tr_sub _ hr
      · exact ⟨i, h0⟩
theorem k0_sub : ∀ {t : Tre} (s : Int), K0 t → K0 (subT s t)
  | .nil, s, h => h
  | .node l k v r, s, h => by
    rw [subT]
    split
    · exact k0_sub s h.2.1
    · split
      · exact k0_sub _ h.2.2
      · exact h
theorem chg_pop_size {t : Tre} (hk : K0 t) (h : t ≠ .nil) : (Tre.pop t).2.size ≤ t.size + 1 := by
  rw [← (pop_chg hk h).1]
  exact chg_size popF_size t 1
theorem chg_pop_k0 {t : Tre} (hk : K0 t) (h : t ≠ .nil) : K0 (Tre.pop t).2 := by
  rw [← (pop_chg hk h).1]
  exact chg_k0 popF_k0 t 1 hk
theorem join_node {l r : Tre} (hl : l ≠ .nil) (hr : r ≠ .nil) : Tre.join l r = Tre.lev l 0 (Tre.pop r).1.v (Tre.pop r).2 := by
  cases l with
  | nil => exact absurd rfl hl
  | node => cases r with
    | nil => exact absurd rfl hr
    | node => rfl
theorem tr_nz {zs : List Cel} {t : Tre} {i : Int} (h : Tr zs t i) (hn : t ≠ .nil) : (i == 0) = false := by
  cases t with
  | nil => exact absurd rfl hn
  | node => rw [beq_eq_false_iff_ne]; have := h.1; omega
section
variable {B : Nat} {a : Option Addr} {root had : Int} {room : Nat} {W0 : World} {O0 : Option Nat} {zs : List Cel}
theorem EOS.same {w : World} {o : Option Nat} {bs : List (Nat × Obj)} {t : Tre} {i : Int} (n : Nat) (h : EDS B (.pointer a) root had room W0 O0 w o zs 0 bs) (ht : Tr zs t i) : EOS B (.pointer a) root had room W0 O0 zs n t bs (.returned (.int .i64 i)) w :=
  ⟨(zs, 0, i), o, ⟨⟨[], by simp, .inl ⟨rfl, ht, by simp⟩⟩, fun e => by cases e⟩, h.1.2.le.1, rfl, h⟩
set_option maxRecDepth 100000 in
set_option maxHeartbeats 8000000 in
theorem ejoin {w : World} {o : Option Nat} {bs : List (Nat × Obj)} {l r : Tre} {x y : Int} (h : EDS B (.pointer a) root had room W0 O0 w o zs 0 bs) (hl : Tr zs l x) (hr : Tr zs r y) (kl : K0 l) (kr : K0 r) (h1 : l.size ≤ 500000) (h2 : r.size ≤ 500000) :
    Calls Try.prog 40 #[.pointer (some ⟨B, 0, none⟩), .int .i64 x, .int .i64 y] w (EOS B (.pointer a) root had room W0 O0 zs (3 * r.high + 3) (Tre.join l r) bs) := by
  by_cases hln : l = .nil
  · subst hln
    have HP := Lib.hid (EOS.same (3 * r.high + 3) h hr)
    rw [show Tre.join .nil r = r from rfl]
    generalize EOS B (.pointer a) root had room W0 O0 zs (3 * r.high + 3) r bs = Post at HP ⊢
    simp only [Tr] at hl
    subst hl
    clear h hr
    go_enter Try.func40, Try.ntmps40
    go_wp2_with fail
    exact HP.out
  have hx := tr_nz hl hln
  by_cases hrn : r = .nil
  · subst hrn
    have e : Tre.join l .nil = l := by cases l <;> rfl
    rw [e]
    have HP := Lib.hid (EOS.same (3 * Tre.nil.high + 3) h hl)
    generalize EOS B (.pointer a) root had room W0 O0 zs (3 * Tre.nil.high + 3) l bs = Post at HP ⊢
    simp only [Tr] at hr
    subst hr
    clear h hl
    go_enter Try.func40, Try.ntmps40
    go_wp2_with fail
    exact HP.out
  have hy := tr_nz hr hrn
  obtain ⟨hpc, r2, hsub⟩ := pop_chg kr hrn
  have HPS := Lib.hid (chg_pop_size kr hrn)
  have HPK := Lib.hid (chg_pop_k0 kr hrn)
  obtain ⟨jv, htv⟩ := tr_sub 1 hr
  rw [hsub] at htv
  obtain ⟨_, _, _, hcv, _⟩ := htv
  have hvb := celAt_ok h.1.2.oks jv
  rw [hcv] at hvb
  have J0 := Lib.hid (h.alloc (boxI 0))
  have HPL : Hid (∀ w, Calls Try.prog 37 #[.int .i64 0] w fun e w' => e = .returned (.int .i64 1) ∧ w = w') := Lib.hid fun w => psplace 0 w (by omega)
  have HCH : Hid (Calls Try.prog 32 #[.pointer (some ⟨B, 0, none⟩), .int .i64 y, .int .i64 1, .func (.func 47) #[] #[.pointer (some ⟨w.heap.size, 0, none⟩)]] (w.alloc (boxI 0)) (EOS B (.pointer a) root had room W0 O0 zs (3 * r.high + 0) (Tre.pop r).2 ((w.heap.size, boxI (Tre.pop r).1.v) :: bs))) := Lib.hid (by
    have := change_any (a := a) (root := root) (had := had) (room := room) (W0 := W0) (O0 := O0) 47 #[.pointer (some ⟨w.heap.size, 0, none⟩)] popF 0 popF_size popF_k0 (enters_of Try.func47 (by kernel_rfl) rfl) r 1 y _ o [] _ ((w.heap.size, boxI (Tre.pop r).1.v) :: bs) J0.out hr kr (by omega) (by omega) (fun ex w2 o2 j hh ht => by
      rw [hsub] at ht ⊢
      exact (join1_any w.heap.size hh ht).mono fun e w3 h3 => h3.mono (by omega))
    rw [hpc] at this
    exact this)
  rw [join_node hln hrn]
  have HL := Lib.hid hl
  have HKL := Lib.hid kl
  have HH := Lib.hid (hl.highA (by omega))
  generalize Tre.pop r = q at HPS HPK hvb HCH ⊢
  obtain ⟨p0, T⟩ := q
  dsimp only at HPS HPK hvb HCH ⊢
  have hv0 : -9223372036854775808 ≤ p0.v ∧ p0.v ≤ 9223372036854775807 := by unfold Cel.ok at hvb; simp only at hvb; omega
  generalize p0.v = v0 at HCH hv0 ⊢
  have hxr := hl.le
  obtain ⟨Post, hPost⟩ : ∃ P, P = EOS B (.pointer a) root had room W0 O0 zs (3 * r.high + 3) (Tre.lev l 0 v0 T) bs := ⟨_, rfl⟩
  have HP : Hid (∀ e w', EOS B (.pointer a) root had room W0 O0 zs (3 * r.high + 0 + 3) (Tre.lev l 0 v0 T) bs e w' → Post e w') := Lib.hid fun e w' h => by rw [hPost]; exact h
  rw [← hPost]
  clear hPost
  generalize 3 * r.high + 0 = n0 at HCH HP
  have hbx : w.alloc (boxI 0) = w.alloc (.cells #[.int .i64 0] 3) := rfl
  rw [hbx] at HCH
  clear hbx h hl hr kl kr hvb hcv hpc J0
  go_enter Try.func40, Try.ntmps40
  go_wp2_with fail
  refine (HPL.out _).mono ?_
  rintro e w1 ⟨rfl, rfl⟩
  go_wp2_with fail
  refine HCH.out.mono ?_
  rintro e w2 ⟨R, o2, hO, hlen, rfl, j2⟩
  have J2 := Lib.hid j2
  have hix := hO.1.idx
  have hzh := hO.high (by have := HPS.out; omega)
  have hoth : 0 ≤ (celAt R.1 x).h ∧ (celAt R.1 x).h ≤ 2000000 := by
    obtain ⟨⟨new, he, _⟩, _⟩ := hO
    rw [he]
    exact (HL.out.append new).highA (by omega)
  have HLV : Hid (∀ X o, EDI X B (.pointer a) o root had room R.1 R.2.1 → Calls Try.prog 45 #[.pointer (some ⟨B, 0, none⟩), .int .i64 x, .int .i64 v0, .int .i64 R.2.2] X (EDP B (.pointer a) o root had room (levelS room R.1 R.2.1 x v0 R.2.2).1 (levelS room R.1 R.2.1 x v0 R.2.2).2.1 (.int .i64 (levelS room R.1 R.2.1 x v0 R.2.2).2.2) X)) := Lib.hid fun X o h => elevel x v0 R.2.2 h (by omega) (by omega) hv0 hoth hzh
  have HOZ := Lib.hid (outZ_right (v := v0) hO HL.out HPK.out HKL.out (by have := HPS.out; omega) (by omega) hlen)
  obtain ⟨_, cf, _⟩ := cellsI (J2.out.at_ (List.mem_cons_self ..))
  clear hO hlen hix hzh hoth j2 HCH
  go_wp2_with fail
  refine (HLV.out _ _ J2.out.bi).mono ?_
  intro e w3 hs
  have HLN := Lib.hid hs.len
  obtain ⟨rfl, o3, J3⟩ := J2.out.call hs
  clear hs cf
  go_wp2_with fail
  exact HP.out _ _ ⟨_, o3, HOZ.out, HLN.out, rfl, EDS.tail J3.out⟩
end
end Go.Proofs.Ytbgepeokadmemaa.F
namespace Go.Proofs.Ytbgepeokadmemaa.F
open Go.ChangeShapes Go.WideShapes Go.ChangeAt Go.RowKit Go.Shelf Base
/-- What done leaves behind an editor's way: the sequence, and the boxes. -/
def SFin (pv : Value) (o : Option Nat) (room : Nat) (zs : List Cel) (P : List Cel → Int → Prop) (Z : Prop) (bs : List (Nat × Obj)) (w : World) (e : Ending) (w' : World) : Prop :=
  ∃ root' why zs' o', e = .returned (.tuple #[.agg #[pv, .int .i64 root'], .int .i64 why]) ∧ Hid (ArV w' pv o' room zs' ∧ Mv o o' w ∧ Fr (VF pv o) w w' ∧ MRes P Z zs zs' root' why ∧ ∀ q ∈ bs, w'.heap[q.1]? = some q.2 ∧ ¬ VF pv o' q.1 ∧ w.heap.size ≤ q.1)
theorem psfing {B : Nat} {a : Option Addr} {o : Option Nat} {root : Int} {room : Nat} {zs : List Cel} {R : List Cel × Int × Int} {P : List Cel → Int → Prop} {Z : Prop} {bs : List (Nat × Obj)} {w w3 : World} {o3 : Option Nat} (hB : w.heap.size ≤ B) (hE : EDS B (.pointer a) root (zs.length : Int) room w o w3 o3 R.1 R.2.1 bs) (hO : (∃ new, R.1 = zs ++ new) ∧ ((R.2.1 = 0 ∧ P R.1 R.2.2) ∨ (R.2.1 = 2 ∧ Z))) :
    Calls Try.prog 31 #[.pointer (some ⟨B, 0, none⟩), .int .i64 R.2.2] w3 (SFin (.pointer a) o room zs P Z bs w) := by
  obtain ⟨hI, hM, hF, hbs, _⟩ := hE
  have hF' : Fr (VF (.pointer a) o) w w3 := (Fr.refl (F := VF (.pointer a) o) w).trans hF (fun g hg k => by
    rcases k with rfl | k
    · omega
    · exact k)
  have hbv : ∀ q ∈ bs, ¬ VF (.pointer a) o3 q.1 := fun q hq k => (hbs q hq).2.1 (.inr k)
  obtain ⟨⟨new, hnew⟩, hR⟩ := hO
  rcases hR with ⟨h0, hP⟩ | ⟨h2, hZ⟩
  · rw [h0] at hI
    refine (psdone_yes R.2.2 hI).mono fun e' w4 ⟨he, hb3⟩ => ?_
    exact ⟨_, _, R.1, o3, he, Lib.hid ⟨hI.2.below hb3, hM, hF'.trans (Fr.of_below (F := fun _ => False) hb3) (fun _ _ k => k.elim), .inl ⟨rfl, hP⟩, fun q hq => ⟨(hb3.block _ (heap_lt (hbs q hq).1)).trans (hbs q hq).1, hbv q hq, (hbs q hq).2.2⟩⟩⟩
  · rw [h2] at hI
    refine (psdone_no (n := zs.length) R.2.2 hI (by rw [hnew]; simp)).mono fun e' w4 ⟨he, o4, h3, h4, h5⟩ => ?_
    rw [show R.1.take zs.length = zs by rw [hnew]; simp] at h3
    exact ⟨_, _, zs, o4, he, Lib.hid ⟨h3, hM.trans h4 hF'.size, hF'.trans h5 (fun g hg k => hM.vf g hg k), .inr ⟨rfl, rfl, rfl, hZ⟩, fun q hq => ⟨(h5.block (heap_lt (hbs q hq).1) (hbv q hq)).trans (hbs q hq).1, fun k => hbv q hq (h4.vf _ (heap_lt (hbs q hq).1) k), (hbs q hq).2.2⟩⟩⟩
theorem psfin {B : Nat} {a : Option Addr} {o : Option Nat} {root : Int} {room : Nat} {zs : List Cel} {R : List Cel × Int × Int} {n : Nat} {T : Tre} {bs : List (Nat × Obj)} {w w3 : World} {o3 : Option Nat} (hB : w.heap.size ≤ B) (hE : EDS B (.pointer a) root (zs.length : Int) room w o w3 o3 R.1 R.2.1 bs) (hO : OutZ room zs n T R) :
    Calls Try.prog 31 #[.pointer (some ⟨B, 0, none⟩), .int .i64 R.2.2] w3 (SFin (.pointer a) o room zs (PutP zs n T) (room < zs.length + n) bs w) := psfing hB hE hO.1.fin
/-- The result's box, stored into at the end. -/
theorem sfin_end {gr : Nat} {a : Option Addr} {o : Option Nat} {room : Nat} {zs : List Cel} {P : List Cel → Int → Prop} {Z : Prop} {bs : List (Nat × Obj)} {w w3 w4 : World} {root' why : Int} {zs' : List Cel} {o' : Option Nat} {ob : Obj}
    (h : ArV w3 (.pointer a) o' room zs' ∧ Mv o o' w ∧ Fr (VF (.pointer a) o) w w3 ∧ MRes P Z zs zs' root' why ∧ ∀ q ∈ bs, w3.heap[q.1]? = some q.2 ∧ ¬ VF (.pointer a) o' q.1 ∧ w.heap.size ≤ q.1) (hgr : (gr, ob) ∈ bs) (hs : Stored w3 gr (boxS (.pointer a) root') w4) :
    MP (.pointer a) o room zs P Z w (.returned (.tuple #[.agg #[.pointer a, .int .i64 root'], .int .i64 why])) w4 := by
  obtain ⟨k1, k2, k3, k4, k5⟩ := h
  have hf : Fr (fun g => g = gr) w3 w4 := ⟨hs.1, hs.2.1, hs.2.2.1, by rw [hs.2.2.2.1]; exact Nat.le_refl _, fun g _ hn => hs.2.2.2.2.2 g hn⟩
  exact ⟨root', why, zs', o', rfl, k1.fr hf (fun g hv e => (k5 _ hgr).2.1 (e ▸ hv)), k2, k3.trans hf (fun g hg e => by have := (k5 _ hgr).2.2; simp only at this; omega), k4⟩
/-- An editor that was just made, and the boxes ahead of it. -/
theorem EDS.begin {B : Nat} {a : Option Addr} {o : Option Nat} {root had : Int} {room : Nat} {zs : List Cel} {w w1 : World} {bs : List (Nat × Obj)} (hA : ArV w (.pointer a) o room zs) (hb : Below w.heap.size w w1) (hI : EDI w1 B (.pointer a) o root had room zs 0) (hbs : ∀ q ∈ bs, w1.heap[q.1]? = some q.2 ∧ w.heap.size ≤ q.1 ∧ q.1 ≠ B) (hp : bs.Pairwise (fun p q => p.1 ≠ q.1)) : EDS B (.pointer a) root had room w o w1 o zs 0 bs :=
  ⟨hI, Mv.refl _ _, Fr.of_below hb, fun q hq => ⟨(hbs q hq).1, fun k => by
    rcases k with k | k
    · exact (hbs q hq).2.2 k
    · have := hA.lt _ k; have := (hbs q hq).2.1; omega, (hbs q hq).2.1⟩, hp⟩
theorem subT_gap : ∀ (t : Tre) (i : Int), subT (2 * i) t = .nil
  | .nil, i => rfl
  | .node l k v r, i => by
    rw [subT]
    split
    · exact subT_gap l i
    · rw [if_pos (by omega), show 2 * i - (2 * (l.size : Int) + 1) - 1 = 2 * (i - (l.size : Int) - 1) by omega]
      exact subT_gap r _
theorem subT_place : ∀ {t : Tre} {i : Int}, K0 t → 0 ≤ i → i < (t.size : Int) → ∃ l v r, subT (2 * i + 1) t = .node l 0 v r
  | .nil, i, _, h0, h1 => by simp only [Tre.size] at h1; omega
  | .node l k v r, i, hk, h0, h1 => by
    simp only [Tre.size] at h1
    rw [subT]
    split
    · exact subT_place hk.2.1 h0 (by omega)
    · split
      · rw [show 2 * i + 1 - (2 * (l.size : Int) + 1) - 1 = 2 * (i - (l.size : Int) - 1) + 1 by omega]
        exact subT_place hk.2.2 (by omega) (by omega)
      · obtain ⟨rfl, _, _⟩ := hk
        exact ⟨l, v, r, rfl⟩
theorem sub_size : ∀ {t : Tre} {s : Int}, (subT s t).size ≤ t.size ∧ (subT s t).high ≤ t.high
  | .nil, s => ⟨Nat.le_refl _, Nat.le_refl _⟩
  | .node l k v r, s => by
    rw [subT]
    have h1 := sub_size (t := l) (s := s)
    have h2 := sub_size (t := r) (s := s - (2 * (l.size : Int) + 1) - 1)
    simp only [Tre.size, Tre.high]
    split
    · omega
    · split
      · omega
      · simp only [Tre.size, Tre.high]; omega
theorem setF_size (x : Int) (t : Tre) : (Tre.setF x t).size ≤ t.size + 1 := by cases t <;> simp only [Tre.setF, Tre.size] <;> omega
theorem setF_k0 (x : Int) (t : Tre) (h : K0 t) : K0 (Tre.setF x t) := by
  cases t with
  | nil => exact h
  | node => exact ⟨rfl, h.2.1, h.2.2⟩
theorem join_size (l r : Tre) : (Tre.join l r).size = l.size + r.size := by rw [← Tre.vals_len, Tre.join_vals, List.length_append, Tre.vals_len, Tre.vals_len]
theorem delF_size (t : Tre) : (Tre.delF t).size ≤ t.size + 1 := by
  cases t with
  | nil => simp only [Tre.delF, Tre.size]; omega
  | node l k v r => simp only [Tre.delF, join_size, Tre.size]; omega
theorem join_k0 {l r : Tre} (hl : K0 l) (hr : K0 r) : K0 (Tre.join l r) := by
  by_cases e1 : l = .nil
  · subst e1; exact hr
  by_cases e2 : r = .nil
  · subst e2; have e : Tre.join l .nil = l := by cases l <;> rfl
    rw [e]; exact hl
  rw [join_node e1 e2]
  exact K0_lev _ hl (chg_pop_k0 hr e2)
theorem delF_k0 (t : Tre) (h : K0 t) : K0 (Tre.delF t) := by
  cases t with
  | nil => exact h
  | node => exact join_k0 h.2.1 h.2.2
set_option maxRecDepth 100000 in
set_option maxHeartbeats 4000000 in
theorem del1_any {B : Nat} {a : Option Addr} {root had : Int} {room : Nat} {W0 : World} {O0 : Option Nat} {zs : List Cel} {w : World} {o : Option Nat} {bs : List (Nat × Obj)} {l r : Tre} {v j : Int} (ge : Nat) (h : EDS B (.pointer a) root had room W0 O0 w o zs 0 bs) (he : (ge, boxE B) ∈ bs) (ht : Tr zs (.node l 0 v r) j) (kl : K0 l) (kr : K0 r) (h1 : l.size ≤ 500000) (h2 : r.size ≤ 500000) :
    Calls Try.prog 39 #[celV (celAt zs j), .pointer (some ⟨ge, 0, none⟩)] w (EOS B (.pointer a) root had room W0 O0 zs (3 * r.high + 3) (Tre.join l r) bs) := by
  obtain ⟨_, ia, ib, hc, hl, hr⟩ := ht
  rw [hc]
  generalize ((Tre.node l 0 v r).size : Int) = cs
  generalize ((Tre.node l 0 v r).high : Int) = ch
  clear hc
  have J1 := Lib.hid (h.alloc (boxC ⟨ia, ib, 0, v, cs, ch⟩))
  have HJ := Lib.hid (ejoin J1.out hl hr kl kr h1 h2)
  have HT : Hid (∀ e w', EOS B (.pointer a) root had room W0 O0 zs (3 * r.high + 3) (Tre.join l r) ((w.heap.size, boxC ⟨ia, ib, 0, v, cs, ch⟩) :: bs) e w' → ∃ x, e = .returned (.int .i64 x) ∧ EOS B (.pointer a) root had room W0 O0 zs (3 * r.high + 3) (Tre.join l r) bs (.returned (.int .i64 x)) w') := Lib.hid fun e w' h => by
    obtain ⟨R, o', k1, k2, rfl, k4⟩ := h
    exact ⟨_, rfl, R, o', k1, k2, rfl, k4.tail⟩
  have ce := (cellsE (J1.out.at_ (List.mem_cons_of_mem _ he))).2
  obtain ⟨c0, c1, _⟩ := J1.out.box (List.mem_cons_self ..)
  generalize EOS B (.pointer a) root had room W0 O0 zs (3 * r.high + 3) (Tre.join l r) ((w.heap.size, boxC ⟨ia, ib, 0, v, cs, ch⟩) :: bs) = Pj at HJ HT
  generalize EOS B (.pointer a) root had room W0 O0 zs (3 * r.high + 3) (Tre.join l r) bs = Post at HT ⊢
  unfold celV
  unfold boxC at HJ ce c0 c1
  dsimp only at HJ ce c0 c1 ⊢
  clear h he hl hr J1
  go_enter Try.func39, Try.ntmps39
  go_wp2_with fail
  refine HJ.out.mono ?_
  intro e w1 hs
  obtain ⟨x, rfl, h3⟩ := HT.out _ _ hs
  have H3 := Lib.hid h3
  clear hs h3 c0 c1 ce HJ
  go_wp2_with fail
  exact H3.out
set_option maxRecDepth 100000 in
set_option maxHeartbeats 4000000 in
theorem psisplace {pv : Value} {o : Option Nat} {room : Nat} {zs : List Cel} {w : World} {t : Tre} {root : Int} (i : Int) (h : ArV w pv o room zs) (ht : Tr zs t root) (h0 : 0 ≤ i) (h1 : i < (t.size : Int)) : Calls Try.prog 36 #[.agg #[pv, .int .i64 root], .int .i64 i] w fun e w' => e = .returned (.bool true) ∧ Below w.heap.size w w' := by
  obtain ⟨a, rfl⟩ := h.ptr
  have HB : Hid (Below w.heap.size w (w.alloc (boxS (.pointer a) root))) := Lib.hid ((Below.refl _ _).alloc (Nat.le_refl _) _)
  have HC := Lib.hid (pslen (h.below HB.out) ht)
  clear h ht
  go_enter Try.func36, Try.ntmps36
  go_wp2_with fail
  refine HC.out.mono ?_
  rintro e w1 ⟨rfl, hb⟩
  go_wp2_with fail
  go_ret
  exact ⟨by first | rfl | simp, HB.out.trans (hb.mono HB.out.size)⟩
set_option maxRecDepth 100000 in
set_option maxHeartbeats 4000000 in
theorem psnoplace {pv : Value} {o : Option Nat} {room : Nat} {zs : List Cel} {w : World} {t : Tre} {root : Int} (i : Int) (h : ArV w pv o room zs) (ht : Tr zs t root) (h1 : ¬ (0 ≤ i ∧ i < (t.size : Int))) : Calls Try.prog 36 #[.agg #[pv, .int .i64 root], .int .i64 i] w fun e w' => e = .returned (.bool false) ∧ Below w.heap.size w w' := by
  obtain ⟨a, rfl⟩ := h.ptr
  have HB : Hid (Below w.heap.size w (w.alloc (boxS (.pointer a) root))) := Lib.hid ((Below.refl _ _).alloc (Nat.le_refl _) _)
  have HC := Lib.hid (pslen (h.below HB.out) ht)
  clear h ht
  by_cases h0 : 0 ≤ i
  · have h2 : ¬ i < (t.size : Int) := fun e => h1 ⟨h0, e⟩
    clear h1
    go_enter Try.func36, Try.ntmps36
    go_wp2_with fail
    refine HC.out.mono ?_
    rintro e w1 ⟨rfl, hb⟩
    go_wp2_with fail
    go_ret
    exact ⟨by first | rfl | (simp; omega), HB.out.trans (hb.mono HB.out.size)⟩
  · clear h1
    go_enter Try.func36, Try.ntmps36
    go_wp2_with fail
    go_ret
    exact ⟨by first | rfl | (simp; omega), HB.out⟩
set_option maxRecDepth 100000 in
set_option maxHeartbeats 8000000 in
theorem psinsert {pv : Value} {o : Option Nat} {room : Nat} {zs : List Cel} {w : World} {t : Tre} {root : Int} (i : Nat) (val : Int) (hvb : -9223372036854775808 ≤ val ∧ val ≤ 9223372036854775807) (h : ArV w pv o room zs) (ht : Tr zs t root) (hk : K0 t) (hsz : t.size ≤ 500000) (hi : i ≤ t.size) :
    Calls Try.prog 10 #[.agg #[pv, .int .i64 root], .int .i64 (i : Int), .int .i64 val] w (MP pv o room zs (PutP zs (3 * t.high + 1) (Tre.insAt i val t)) (room < zs.length + (3 * t.high + 1)) w) := by
  obtain ⟨a, rfl⟩ := h.ptr
  have hb0 : Below w.heap.size w (((w.alloc (boxS (.pointer a) root)).alloc (boxI val)).alloc (boxS (.pointer none) 0)) := (((Below.refl _ _).alloc (Nat.le_refl _) _).alloc (by simp only [World.size_alloc]; omega) _).alloc (by simp only [World.size_alloc]; omega) _
  have HA := Lib.hid h
  have HB0 := Lib.hid hb0
  have HM := Lib.hid (fun (X : World) (hX : Below w.heap.size w X) => psedit root (h.below hX))
  have HLN := Lib.hid fun (X : World) (hX : Below w.heap.size w X) => pslen (h.below hX) ht
  have HPL : Hid (∀ w, Calls Try.prog 33 #[.int .i64 (i : Int)] w fun e w' => e = .returned (.int .i64 (2 * (i : Int))) ∧ w = w') := Lib.hid fun w => psgap (i : Int) w (by omega)
  have HCHA : Hid (∀ (B ge : Nat) (X : World), EDS B (.pointer a) root (zs.length : Int) room w o X o zs 0 ((ge, boxE B) :: (w.heap.size, boxS (.pointer a) root) :: (w.heap.size + 1, boxI val) :: (w.heap.size + 2, boxS (.pointer none) 0) :: []) → Calls Try.prog 32 #[.pointer (some ⟨B, 0, none⟩), .int .i64 root, .int .i64 (2 * (i : Int)), .func (.func 34) #[] #[.pointer (some ⟨ge, 0, none⟩), .pointer (some ⟨w.heap.size + 1, 0, none⟩)]] X (EOS B (.pointer a) root (zs.length : Int) room w o zs (3 * t.high + 1) (Tre.insAt i val t) ((ge, boxE B) :: (w.heap.size, boxS (.pointer a) root) :: (w.heap.size + 1, boxI val) :: (w.heap.size + 2, boxS (.pointer none) 0) :: []))) := Lib.hid fun B ge X hX =>
    change_any 34 #[.pointer (some ⟨ge, 0, none⟩), .pointer (some ⟨w.heap.size + 1, 0, none⟩)] (fun _ => Tre.node .nil 0 val .nil) 1 (fun t => by simp only [Tre.size]; omega) (fun t _ => ⟨rfl, trivial, trivial⟩) (enters_of Try.func34 (by kernel_rfl) rfl) t _ root X o [] _ _ hX ht hk hsz (by omega) (fun ex w2 o2 j hh htj => by
      rw [subT_gap]
      rw [subT_gap] at htj
      exact (ins1_any _ ge (w.heap.size + 1) val hvb hh (List.mem_append_right _ (by simp)) (List.mem_append_right _ (by simp))).mono fun e w3 h3 => h3.mono (by simp only [Tre.high]; omega))
  generalize Tre.insAt i val t = T at HCHA ⊢
  generalize 3 * t.high + 1 = n at HCHA ⊢
  have hi0 : ¬ (i : Int) < 0 := by omega
  have hi1 : ¬ (t.size : Int) < (i : Int) := by omega
  clear h ht hk hsz hi hb0
  go_enter Try.func10, Try.ntmps10
  go_wp2_with fail
  refine (HLN.out _ HB0.out).mono ?_
  rintro e w0 ⟨rfl, hb0⟩
  obtain ⟨m0, m1⟩ := (cellsS ((hb0.block w.heap.size (by simp only [World.size_alloc]; omega)).trans (heap_alloc_lt _ _ _ _ (heap_alloc_lt _ _ _ _ (heap_alloc_at _ _ _ (by simp)))))).2
  go_wp2_with fail
  refine (HM.out _ (HB0.out.trans (hb0.mono HB0.out.size))).mono ?_
  rintro e w1 ⟨B, rfl, hB, hBI, hb1⟩
  have hb := hb0.trans (hb1.mono hb0.size)
  have hsz1 := hb.size
  have hsz0 := hb0.size
  have hsz2 := hb1.size
  clear m0 m1
  have J0 : Hid (EDS B (.pointer a) root (zs.length : Int) room w o (w1.alloc (boxE B)) o zs 0 ((w1.heap.size, boxE B) :: (w.heap.size, boxS (.pointer a) root) :: (w.heap.size + 1, boxI val) :: (w.heap.size + 2, boxS (.pointer none) 0) :: [])) := Lib.hid ((EDS.begin HA.out (HB0.out.trans (hb.mono HB0.out.size)) hBI (fun q hq => by
    simp only [World.size_alloc] at hB hsz1 hsz0
    simp only [List.mem_cons, List.not_mem_nil, or_false] at hq
    rcases hq with rfl | rfl | rfl
    · exact ⟨(hb.block _ (by simp only [World.size_alloc]; omega)).trans (heap_alloc_lt _ _ _ _ (heap_alloc_lt _ _ _ _ (heap_alloc_at _ _ _ (by simp)))), by simp only; omega, by simp only; omega⟩
    · exact ⟨(hb.block _ (by simp only [World.size_alloc]; omega)).trans (heap_alloc_lt _ _ _ _ (heap_alloc_at _ _ _ (by simp))), by simp only; omega, by simp only; omega⟩
    · exact ⟨(hb.block _ (by simp only [World.size_alloc]; omega)).trans (heap_alloc_at _ _ _ (by simp)), by simp only; omega, by simp only; omega⟩) (by simp)).alloc (boxE B))
  have HGE : Hid (w.heap.size + 2 < w1.heap.size ∧ w.heap.size ≤ B) := Lib.hid (by simp only [World.size_alloc] at hB hsz1 hsz0; have := hBI.1; have := heap_lt this; omega)
  have HSB : Hid (w.heap.size ≤ B) := Lib.hid HGE.out.2
  have hs := (cellsS (J0.out.at_ (ob := boxS (.pointer a) root) (g := w.heap.size) (by simp))).2
  obtain ⟨m0, m1⟩ := hs
  clear hB hBI hb hsz1 hsz0 hsz2 hb0 hb1 HM
  have HCH0 := Lib.hid (fun X hX => HCHA.out B w1.heap.size X hX)
  obtain ⟨ge, hge⟩ : ∃ ge, ge = w1.heap.size := ⟨_, rfl⟩
  go_upto_region 4 with fail
  obtain ⟨Y, hY⟩ : ∃ Y, Y = w1.alloc (boxE B) := ⟨_, rfl⟩
  rw [← hY] at J0
  unfold boxE at hY
  rw [← hY, ← hge]
  rw [← hge] at J0 HGE HCH0
  clear hY hge m0 m1
  have J0D := Lib.hid J0.out.drew
  have HCH := Lib.hid (HCH0.out _ J0D.out)
  clear HCH0 HCHA
  refine wp_region_held_drew (S := (fun X => X.cell? ⟨ge, 0, none⟩ = some (.pointer (some ⟨B, 0, none⟩)) ∧ X.cell? ⟨w.heap.size, 1, none⟩ = some (.int .i64 root))) (by as_aux_lemma => kernel_rfl) (⟨(cellsE (J0D.out.at_ (ob := boxE B) (g := ge) (by simp))).2, (cellsS (J0D.out.at_ (ob := boxS (.pointer a) root) (g := w.heap.size) (by simp))).2.2⟩) (fun hHeld0 => ?_)
  refine wpAnyH_take (i := 0) (v := ?_) rfl (by as_aux_lemma => kernel_rfl) (by as_aux_lemma => kernel_rfl) (by as_aux_lemma => kernel_rfl) (fun _ _ _ h => h) (Or.inl ⟨by as_aux_lemma => rfl, ?yt0⟩) (by assumption) ?qt0
  case yt0 => (intro wz hSw; (try dsimp only at hSw); go_simp <;> with_reducible rfl)
  try simp only [Act.put, List.getElem_toArray, List.getElem_cons_zero, List.setIfInBounds_toArray, List.set_cons_zero, List.set_cons_succ]
  refine wpAnyH_take (i := 1) (v := ?_) rfl (by as_aux_lemma => kernel_rfl) (by as_aux_lemma => kernel_rfl) (by as_aux_lemma => kernel_rfl) (fun _ _ _ h => h) (Or.inl ⟨by as_aux_lemma => rfl, ?yt1⟩) (by assumption) ?qt1
  case yt1 => (intro wz hSw; (try dsimp only at hSw); go_simp <;> with_reducible rfl)
  try simp only [Act.put, List.getElem_toArray, List.getElem_cons_zero, List.getElem_cons_succ, List.setIfInBounds_toArray, List.set_cons_zero, List.set_cons_succ]
  refine wpAnyH_take (i := 2) (v := ?_) rfl (by as_aux_lemma => kernel_rfl) (by as_aux_lemma => kernel_rfl) (by as_aux_lemma => kernel_rfl) (fun _ _ _ h => h) (Or.inl ⟨by as_aux_lemma => rfl, ?yt2⟩) (by assumption) ?qt2
  case yt2 => (intro wz hSw; (try dsimp only at hSw); go_simp <;> with_reducible rfl)
  try simp only [Act.put, List.getElem_toArray, List.getElem_cons_zero, List.getElem_cons_succ, List.setIfInBounds_toArray, List.set_cons_zero, List.set_cons_succ]
  refine wpAnyH_take (i := 3) (v := ?_) rfl (by as_aux_lemma => kernel_rfl) (by as_aux_lemma => kernel_rfl) (by as_aux_lemma => kernel_rfl) (fun _ _ _ h => h) (Or.inl ⟨by as_aux_lemma => rfl, ?yt3⟩) (by assumption) ?qt3
  case yt3 => (intro wz hSw; (try dsimp only at hSw); go_simp <;> with_reducible rfl)
  try simp only [Act.put, List.getElem_toArray, List.getElem_cons_zero, List.getElem_cons_succ, List.setIfInBounds_toArray, List.set_cons_zero, List.set_cons_succ]
  refine wpAnyH_take (i := 4) (v := ?_) rfl (by as_aux_lemma => kernel_rfl) (by as_aux_lemma => kernel_rfl) (by as_aux_lemma => kernel_rfl) (fun _ _ _ h => h) (Or.inl ⟨by as_aux_lemma => rfl, ?yt4⟩) (by assumption) ?qt4
  case yt4 => (intro wz hSw; (try dsimp only at hSw); go_simp <;> with_reducible rfl)
  try simp only [Act.put, List.getElem_toArray, List.getElem_cons_zero, List.getElem_cons_succ, List.setIfInBounds_toArray, List.set_cons_zero, List.set_cons_succ]
  refine wpAnyH_take (i := 6) (v := ?_) rfl (by as_aux_lemma => kernel_rfl) (by as_aux_lemma => kernel_rfl) (by as_aux_lemma => kernel_rfl) (fun _ _ _ h => h) (Or.inl ⟨by as_aux_lemma => rfl, ?yt6⟩) (by assumption) ?qt6
  case yt6 => (intro wz hSw; (try dsimp only at hSw); go_simp <;> with_reducible rfl)
  try simp only [Act.put, List.getElem_toArray, List.getElem_cons_zero, List.getElem_cons_succ, List.setIfInBounds_toArray, List.set_cons_zero, List.set_cons_succ]
  refine wpAnyH_ready (rs := [5]) (by as_aux_lemma => kernel_rfl) (by simp) ?_
  refine AllReadyH.cons rfl (fun K hK => ?_) AllReadyH.nil
  go_simp
  refine (HPL.out _).mono ?_
  rintro e u1 ⟨rfl, rfl⟩
  refine hK.out _ _ (⟨(cellsE (J0D.out.at_ (ob := boxE B) (g := ge) (by simp))).2, (cellsS (J0D.out.at_ (ob := boxS (.pointer a) root) (g := w.heap.size) (by simp))).2.2⟩) (fun hHeld1 => ?_)
  clear hK K
  try simp only [Act.put, List.getElem_toArray, List.getElem_cons_zero, List.getElem_cons_succ, List.setIfInBounds_toArray, List.set_cons_zero, List.set_cons_succ]
  refine wpAnyH_ready (rs := [7]) (by as_aux_lemma => kernel_rfl) (by simp) ?_
  refine AllReadyH.cons rfl (fun K hK => ?_) AllReadyH.nil
  go_simp
  refine HCH.out.mono ?_
  rintro e u2 ⟨R, o5, hO, hlen, rfl, j5⟩
  have JB := Lib.hid j5
  have HFN := Lib.hid (psfin HSB.out j5 hO)
  clear hO hlen j5 HCH
  refine hK.out _ _ (⟨(cellsE (JB.out.at_ (ob := boxE B) (g := ge) (by simp))).2, (cellsS (JB.out.at_ (ob := boxS (.pointer a) root) (g := w.heap.size) (by simp))).2.2⟩) (fun hHeld2 => ?_)
  clear hK K
  try simp only [Act.put, List.getElem_toArray, List.getElem_cons_zero, List.getElem_cons_succ, List.setIfInBounds_toArray, List.set_cons_zero, List.set_cons_succ]
  refine wpAnyH_ready (rs := [8]) (by as_aux_lemma => kernel_rfl) (by simp) ?_
  refine AllReadyH.cons rfl (fun K hK => ?_) AllReadyH.nil
  go_simp
  refine HFN.out.mono ?_
  rintro e u3 ⟨root2, why2, zs2, o2, rfl, HE⟩
  clear HFN
  refine hK.out _ _ (⟨(cellsE (HE.out.2.2.2.2 (ge, boxE B) (by simp)).1).2, (cellsS (HE.out.2.2.2.2 (w.heap.size, boxS (.pointer a) root) (by simp)).1).2.2⟩) (fun hHeld3 => ?_)
  clear hK K
  try simp only [Act.put, List.getElem_toArray, List.getElem_cons_zero, List.getElem_cons_succ, List.setIfInBounds_toArray, List.set_cons_zero, List.set_cons_succ]
  refine wpAnyH_take (i := 9) (v := ?_) rfl (by as_aux_lemma => kernel_rfl) (by as_aux_lemma => kernel_rfl) (by as_aux_lemma => kernel_rfl) (fun _ _ _ h => h) (Or.inl ⟨by as_aux_lemma => rfl, ?yt9⟩) (by assumption) ?qt9
  case yt9 => (intro wz hSw; (try dsimp only at hSw); go_simp <;> with_reducible rfl)
  try simp only [Act.put, List.getElem_toArray, List.getElem_cons_zero, List.getElem_cons_succ, List.setIfInBounds_toArray, List.set_cons_zero, List.set_cons_succ]
  refine wpAnyH_take (i := 10) (v := ?_) rfl (by as_aux_lemma => kernel_rfl) (by as_aux_lemma => kernel_rfl) (by as_aux_lemma => kernel_rfl) (fun _ _ _ h => h) (Or.inl ⟨by as_aux_lemma => rfl, ?yt10⟩) (by assumption) ?qt10
  case yt10 => (intro wz hSw; (try dsimp only at hSw); go_simp <;> with_reducible rfl)
  try simp only [Act.put, List.getElem_toArray, List.getElem_cons_zero, List.getElem_cons_succ, List.setIfInBounds_toArray, List.set_cons_zero, List.set_cons_succ]
  refine wpAnyH_ready (rs := [11]) (by as_aux_lemma => kernel_rfl) (by simp) ?_
  refine AllReadyH.cons rfl (fun K hK => ?_) AllReadyH.nil
  refine wp_store_seq (.tmp 6) (.tmp 31) rfl (w.heap.size + 2) a none root2 0 rfl rfl (HE.out.2.2.2.2 (w.heap.size + 2, boxS (.pointer none) 0) (by simp)).1 ?_
  intro u4 hst
  have HST := Lib.hid hst
  clear hst
  refine hK.out _ _ (⟨(cellsE ((HST.out.2.2.2.2.2 ge (by have := HGE.out; omega)).trans (HE.out.2.2.2.2 (ge, boxE B) (by simp)).1)).2, (cellsS ((HST.out.2.2.2.2.2 w.heap.size (by omega)).trans (HE.out.2.2.2.2 (w.heap.size, boxS (.pointer a) root) (by simp)).1)).2.2⟩) (fun hHeld4 => ?_)
  clear hK K
  try simp only [Act.put, List.getElem_toArray, List.getElem_cons_zero, List.getElem_cons_succ]
  refine wpAnyH_take (i := 12) (v := ?_) rfl (by as_aux_lemma => kernel_rfl) (by as_aux_lemma => kernel_rfl) (by as_aux_lemma => kernel_rfl) (fun _ _ _ h => h) (Or.inl ⟨by as_aux_lemma => rfl, ?yt12⟩) (by assumption) ?qt12
  case yt12 => (intro wz hSw; (try dsimp only at hSw); go_simp <;> with_reducible rfl)
  try simp only [Act.put, List.getElem_toArray, List.getElem_cons_zero, List.getElem_cons_succ, List.setIfInBounds_toArray, List.set_cons_zero, List.set_cons_succ]
  refine wpAnyH_done (by as_aux_lemma => kernel_rfl) ?_ _
  obtain ⟨_, r0, r1⟩ := cellsS HST.out.2.2.2.2.1
  go_wp2_with fail
  exact bodyPost_ret (v := .tuple #[.agg #[.pointer a, .int .i64 root2], .int .i64 why2]) (by simp [results, Try.results10, go_sem, r0, r1]) rfl (sfin_end HE.out (gr := w.heap.size + 2) (ob := boxS (.pointer none) 0) (by simp) HST.out)
set_option maxRecDepth 100000 in
set_option maxHeartbeats 8000000 in
theorem psset {pv : Value} {o : Option Nat} {room : Nat} {zs : List Cel} {w : World} {t : Tre} {root : Int} (i : Nat) (val : Int) (hvb : -9223372036854775808 ≤ val ∧ val ≤ 9223372036854775807) (h : ArV w pv o room zs) (ht : Tr zs t root) (hk : K0 t) (hsz : t.size ≤ 500000) (hi : i < t.size) :
    Calls Try.prog 11 #[.agg #[pv, .int .i64 root], .int .i64 (i : Int), .int .i64 val] w (MP pv o room zs (PutP zs (3 * t.high + 0) (Tre.setAt i val t)) (room < zs.length + (3 * t.high + 0)) w) := by
  obtain ⟨a, rfl⟩ := h.ptr
  have hb0 : Below w.heap.size w (((w.alloc (boxS (.pointer a) root)).alloc (boxI val)).alloc (boxS (.pointer none) 0)) := (((Below.refl _ _).alloc (Nat.le_refl _) _).alloc (by simp only [World.size_alloc]; omega) _).alloc (by simp only [World.size_alloc]; omega) _
  have HA := Lib.hid h
  have HB0 := Lib.hid hb0
  have HM := Lib.hid (fun (X : World) (hX : Below w.heap.size w X) => psedit root (h.below hX))
  have HLN := Lib.hid fun (X : World) (hX : Below w.heap.size w X) => psisplace (i : Int) (h.below hX) ht (by omega) (by omega)
  have HPL : Hid (∀ w, Calls Try.prog 37 #[.int .i64 (i : Int)] w fun e w' => e = .returned (.int .i64 (2 * (i : Int) + 1)) ∧ w = w') := Lib.hid fun w => psplace (i : Int) w (by omega)
  have HCHA : Hid (∀ (B ge : Nat) (X : World), EDS B (.pointer a) root (zs.length : Int) room w o X o zs 0 ((ge, boxE B) :: (w.heap.size, boxS (.pointer a) root) :: (w.heap.size + 1, boxI val) :: (w.heap.size + 2, boxS (.pointer none) 0) :: []) → Calls Try.prog 32 #[.pointer (some ⟨B, 0, none⟩), .int .i64 root, .int .i64 (2 * (i : Int) + 1), .func (.func 38) #[] #[.pointer (some ⟨ge, 0, none⟩), .pointer (some ⟨w.heap.size + 1, 0, none⟩)]] X (EOS B (.pointer a) root (zs.length : Int) room w o zs (3 * t.high + 0) (Tre.setAt i val t) ((ge, boxE B) :: (w.heap.size, boxS (.pointer a) root) :: (w.heap.size + 1, boxI val) :: (w.heap.size + 2, boxS (.pointer none) 0) :: []))) := Lib.hid fun B ge X hX =>
    change_any 38 #[.pointer (some ⟨ge, 0, none⟩), .pointer (some ⟨w.heap.size + 1, 0, none⟩)] (Tre.setF val) 0 (setF_size val) (setF_k0 val) (enters_of Try.func38 (by kernel_rfl) rfl) t _ root X o [] _ _ hX ht hk hsz (by omega) (fun ex w2 o2 j hh htj => by
      obtain ⟨l, v, r, hsub⟩ := subT_place hk (by omega) (show (i : Int) < (t.size : Int) by omega)
      have hss := sub_size (t := t) (s := 2 * (i : Int) + 1)
      rw [hsub] at htj hss ⊢
      simp only [Tre.size] at hss
      exact (set1_any ge (w.heap.size + 1) val hvb hh (List.mem_append_right _ (by simp)) (List.mem_append_right _ (by simp)) htj (by omega) (by omega)).mono fun e w3 h3 => h3.mono (by simp only [Tre.high]; omega))
  generalize Tre.setAt i val t = T at HCHA ⊢
  generalize 3 * t.high + 0 = n at HCHA ⊢
  skip
  clear h ht hk hsz hi hb0
  go_enter Try.func11, Try.ntmps11
  go_wp2_with fail
  refine (HLN.out _ HB0.out).mono ?_
  rintro e w0 ⟨rfl, hb0⟩
  obtain ⟨m0, m1⟩ := (cellsS ((hb0.block w.heap.size (by simp only [World.size_alloc]; omega)).trans (heap_alloc_lt _ _ _ _ (heap_alloc_lt _ _ _ _ (heap_alloc_at _ _ _ (by simp)))))).2
  go_wp2_with fail
  refine (HM.out _ (HB0.out.trans (hb0.mono HB0.out.size))).mono ?_
  rintro e w1 ⟨B, rfl, hB, hBI, hb1⟩
  have hb := hb0.trans (hb1.mono hb0.size)
  have hsz1 := hb.size
  have hsz0 := hb0.size
  have hsz2 := hb1.size
  clear m0 m1
  have J0 : Hid (EDS B (.pointer a) root (zs.length : Int) room w o (w1.alloc (boxE B)) o zs 0 ((w1.heap.size, boxE B) :: (w.heap.size, boxS (.pointer a) root) :: (w.heap.size + 1, boxI val) :: (w.heap.size + 2, boxS (.pointer none) 0) :: [])) := Lib.hid ((EDS.begin HA.out (HB0.out.trans (hb.mono HB0.out.size)) hBI (fun q hq => by
    simp only [World.size_alloc] at hB hsz1 hsz0
    simp only [List.mem_cons, List.not_mem_nil, or_false] at hq
    rcases hq with rfl | rfl | rfl
    · exact ⟨(hb.block _ (by simp only [World.size_alloc]; omega)).trans (heap_alloc_lt _ _ _ _ (heap_alloc_lt _ _ _ _ (heap_alloc_at _ _ _ (by simp)))), by simp only; omega, by simp only; omega⟩
    · exact ⟨(hb.block _ (by simp only [World.size_alloc]; omega)).trans (heap_alloc_lt _ _ _ _ (heap_alloc_at _ _ _ (by simp))), by simp only; omega, by simp only; omega⟩
    · exact ⟨(hb.block _ (by simp only [World.size_alloc]; omega)).trans (heap_alloc_at _ _ _ (by simp)), by simp only; omega, by simp only; omega⟩) (by simp)).alloc (boxE B))
  have HGE : Hid (w.heap.size + 2 < w1.heap.size ∧ w.heap.size ≤ B) := Lib.hid (by simp only [World.size_alloc] at hB hsz1 hsz0; have := hBI.1; have := heap_lt this; omega)
  have HSB : Hid (w.heap.size ≤ B) := Lib.hid HGE.out.2
  have hs := (cellsS (J0.out.at_ (ob := boxS (.pointer a) root) (g := w.heap.size) (by simp))).2
  obtain ⟨m0, m1⟩ := hs
  clear hB hBI hb hsz1 hsz0 hsz2 hb0 hb1 HM
  have HCH0 := Lib.hid (fun X hX => HCHA.out B w1.heap.size X hX)
  obtain ⟨ge, hge⟩ : ∃ ge, ge = w1.heap.size := ⟨_, rfl⟩
  go_upto_region 4 with fail
  obtain ⟨Y, hY⟩ : ∃ Y, Y = w1.alloc (boxE B) := ⟨_, rfl⟩
  rw [← hY] at J0
  unfold boxE at hY
  rw [← hY, ← hge]
  rw [← hge] at J0 HGE HCH0
  clear hY hge m0 m1
  have J0D := Lib.hid J0.out.drew
  have HCH := Lib.hid (HCH0.out _ J0D.out)
  clear HCH0 HCHA
  refine wp_region_held_drew (S := (fun X => X.cell? ⟨ge, 0, none⟩ = some (.pointer (some ⟨B, 0, none⟩)) ∧ X.cell? ⟨w.heap.size, 1, none⟩ = some (.int .i64 root))) (by as_aux_lemma => kernel_rfl) (⟨(cellsE (J0D.out.at_ (ob := boxE B) (g := ge) (by simp))).2, (cellsS (J0D.out.at_ (ob := boxS (.pointer a) root) (g := w.heap.size) (by simp))).2.2⟩) (fun hHeld0 => ?_)
  refine wpAnyH_take (i := 0) (v := ?_) rfl (by as_aux_lemma => kernel_rfl) (by as_aux_lemma => kernel_rfl) (by as_aux_lemma => kernel_rfl) (fun _ _ _ h => h) (Or.inl ⟨by as_aux_lemma => rfl, ?yt0⟩) (by assumption) ?qt0
  case yt0 => (intro wz hSw; (try dsimp only at hSw); go_simp <;> with_reducible rfl)
  try simp only [Act.put, List.getElem_toArray, List.getElem_cons_zero, List.setIfInBounds_toArray, List.set_cons_zero, List.set_cons_succ]
  refine wpAnyH_take (i := 1) (v := ?_) rfl (by as_aux_lemma => kernel_rfl) (by as_aux_lemma => kernel_rfl) (by as_aux_lemma => kernel_rfl) (fun _ _ _ h => h) (Or.inl ⟨by as_aux_lemma => rfl, ?yt1⟩) (by assumption) ?qt1
  case yt1 => (intro wz hSw; (try dsimp only at hSw); go_simp <;> with_reducible rfl)
  try simp only [Act.put, List.getElem_toArray, List.getElem_cons_zero, List.getElem_cons_succ, List.setIfInBounds_toArray, List.set_cons_zero, List.set_cons_succ]
  refine wpAnyH_take (i := 2) (v := ?_) rfl (by as_aux_lemma => kernel_rfl) (by as_aux_lemma => kernel_rfl) (by as_aux_lemma => kernel_rfl) (fun _ _ _ h => h) (Or.inl ⟨by as_aux_lemma => rfl, ?yt2⟩) (by assumption) ?qt2
  case yt2 => (intro wz hSw; (try dsimp only at hSw); go_simp <;> with_reducible rfl)
  try simp only [Act.put, List.getElem_toArray, List.getElem_cons_zero, List.getElem_cons_succ, List.setIfInBounds_toArray, List.set_cons_zero, List.set_cons_succ]
  refine wpAnyH_take (i := 3) (v := ?_) rfl (by as_aux_lemma => kernel_rfl) (by as_aux_lemma => kernel_rfl) (by as_aux_lemma => kernel_rfl) (fun _ _ _ h => h) (Or.inl ⟨by as_aux_lemma => rfl, ?yt3⟩) (by assumption) ?qt3
  case yt3 => (intro wz hSw; (try dsimp only at hSw); go_simp <;> with_reducible rfl)
  try simp only [Act.put, List.getElem_toArray, List.getElem_cons_zero, List.getElem_cons_succ, List.setIfInBounds_toArray, List.set_cons_zero, List.set_cons_succ]
  refine wpAnyH_take (i := 4) (v := ?_) rfl (by as_aux_lemma => kernel_rfl) (by as_aux_lemma => kernel_rfl) (by as_aux_lemma => kernel_rfl) (fun _ _ _ h => h) (Or.inl ⟨by as_aux_lemma => rfl, ?yt4⟩) (by assumption) ?qt4
  case yt4 => (intro wz hSw; (try dsimp only at hSw); go_simp <;> with_reducible rfl)
  try simp only [Act.put, List.getElem_toArray, List.getElem_cons_zero, List.getElem_cons_succ, List.setIfInBounds_toArray, List.set_cons_zero, List.set_cons_succ]
  refine wpAnyH_take (i := 6) (v := ?_) rfl (by as_aux_lemma => kernel_rfl) (by as_aux_lemma => kernel_rfl) (by as_aux_lemma => kernel_rfl) (fun _ _ _ h => h) (Or.inl ⟨by as_aux_lemma => rfl, ?yt6⟩) (by assumption) ?qt6
  case yt6 => (intro wz hSw; (try dsimp only at hSw); go_simp <;> with_reducible rfl)
  try simp only [Act.put, List.getElem_toArray, List.getElem_cons_zero, List.getElem_cons_succ, List.setIfInBounds_toArray, List.set_cons_zero, List.set_cons_succ]
  refine wpAnyH_ready (rs := [5]) (by as_aux_lemma => kernel_rfl) (by simp) ?_
  refine AllReadyH.cons rfl (fun K hK => ?_) AllReadyH.nil
  go_simp
  refine (HPL.out _).mono ?_
  rintro e u1 ⟨rfl, rfl⟩
  refine hK.out _ _ (⟨(cellsE (J0D.out.at_ (ob := boxE B) (g := ge) (by simp))).2, (cellsS (J0D.out.at_ (ob := boxS (.pointer a) root) (g := w.heap.size) (by simp))).2.2⟩) (fun hHeld1 => ?_)
  clear hK K
  try simp only [Act.put, List.getElem_toArray, List.getElem_cons_zero, List.getElem_cons_succ, List.setIfInBounds_toArray, List.set_cons_zero, List.set_cons_succ]
  refine wpAnyH_ready (rs := [7]) (by as_aux_lemma => kernel_rfl) (by simp) ?_
  refine AllReadyH.cons rfl (fun K hK => ?_) AllReadyH.nil
  go_simp
  refine HCH.out.mono ?_
  rintro e u2 ⟨R, o5, hO, hlen, rfl, j5⟩
  have JB := Lib.hid j5
  have HFN := Lib.hid (psfin HSB.out j5 hO)
  clear hO hlen j5 HCH
  refine hK.out _ _ (⟨(cellsE (JB.out.at_ (ob := boxE B) (g := ge) (by simp))).2, (cellsS (JB.out.at_ (ob := boxS (.pointer a) root) (g := w.heap.size) (by simp))).2.2⟩) (fun hHeld2 => ?_)
  clear hK K
  try simp only [Act.put, List.getElem_toArray, List.getElem_cons_zero, List.getElem_cons_succ, List.setIfInBounds_toArray, List.set_cons_zero, List.set_cons_succ]
  refine wpAnyH_ready (rs := [8]) (by as_aux_lemma => kernel_rfl) (by simp) ?_
  refine AllReadyH.cons rfl (fun K hK => ?_) AllReadyH.nil
  go_simp
  refine HFN.out.mono ?_
  rintro e u3 ⟨root2, why2, zs2, o2, rfl, HE⟩
  clear HFN
  refine hK.out _ _ (⟨(cellsE (HE.out.2.2.2.2 (ge, boxE B) (by simp)).1).2, (cellsS (HE.out.2.2.2.2 (w.heap.size, boxS (.pointer a) root) (by simp)).1).2.2⟩) (fun hHeld3 => ?_)
  clear hK K
  try simp only [Act.put, List.getElem_toArray, List.getElem_cons_zero, List.getElem_cons_succ, List.setIfInBounds_toArray, List.set_cons_zero, List.set_cons_succ]
  refine wpAnyH_take (i := 9) (v := ?_) rfl (by as_aux_lemma => kernel_rfl) (by as_aux_lemma => kernel_rfl) (by as_aux_lemma => kernel_rfl) (fun _ _ _ h => h) (Or.inl ⟨by as_aux_lemma => rfl, ?yt9⟩) (by assumption) ?qt9
  case yt9 => (intro wz hSw; (try dsimp only at hSw); go_simp <;> with_reducible rfl)
  try simp only [Act.put, List.getElem_toArray, List.getElem_cons_zero, List.getElem_cons_succ, List.setIfInBounds_toArray, List.set_cons_zero, List.set_cons_succ]
  refine wpAnyH_take (i := 10) (v := ?_) rfl (by as_aux_lemma => kernel_rfl) (by as_aux_lemma => kernel_rfl) (by as_aux_lemma => kernel_rfl) (fun _ _ _ h => h) (Or.inl ⟨by as_aux_lemma => rfl, ?yt10⟩) (by assumption) ?qt10
  case yt10 => (intro wz hSw; (try dsimp only at hSw); go_simp <;> with_reducible rfl)
  try simp only [Act.put, List.getElem_toArray, List.getElem_cons_zero, List.getElem_cons_succ, List.setIfInBounds_toArray, List.set_cons_zero, List.set_cons_succ]
  refine wpAnyH_ready (rs := [11]) (by as_aux_lemma => kernel_rfl) (by simp) ?_
  refine AllReadyH.cons rfl (fun K hK => ?_) AllReadyH.nil
  refine wp_store_seq (.tmp 6) (.tmp 27) rfl (w.heap.size + 2) a none root2 0 rfl rfl (HE.out.2.2.2.2 (w.heap.size + 2, boxS (.pointer none) 0) (by simp)).1 ?_
  intro u4 hst
  have HST := Lib.hid hst
  clear hst
  refine hK.out _ _ (⟨(cellsE ((HST.out.2.2.2.2.2 ge (by have := HGE.out; omega)).trans (HE.out.2.2.2.2 (ge, boxE B) (by simp)).1)).2, (cellsS ((HST.out.2.2.2.2.2 w.heap.size (by omega)).trans (HE.out.2.2.2.2 (w.heap.size, boxS (.pointer a) root) (by simp)).1)).2.2⟩) (fun hHeld4 => ?_)
  clear hK K
  try simp only [Act.put, List.getElem_toArray, List.getElem_cons_zero, List.getElem_cons_succ]
  refine wpAnyH_take (i := 12) (v := ?_) rfl (by as_aux_lemma => kernel_rfl) (by as_aux_lemma => kernel_rfl) (by as_aux_lemma => kernel_rfl) (fun _ _ _ h => h) (Or.inl ⟨by as_aux_lemma => rfl, ?yt12⟩) (by assumption) ?qt12
  case yt12 => (intro wz hSw; (try dsimp only at hSw); go_simp <;> with_reducible rfl)
  try simp only [Act.put, List.getElem_toArray, List.getElem_cons_zero, List.getElem_cons_succ, List.setIfInBounds_toArray, List.set_cons_zero, List.set_cons_succ]
  refine wpAnyH_done (by as_aux_lemma => kernel_rfl) ?_ _
  obtain ⟨_, r0, r1⟩ := cellsS HST.out.2.2.2.2.1
  go_wp2_with fail
  exact bodyPost_ret (v := .tuple #[.agg #[.pointer a, .int .i64 root2], .int .i64 why2]) (by simp [results, Try.results11, go_sem, r0, r1]) rfl (sfin_end HE.out (gr := w.heap.size + 2) (ob := boxS (.pointer none) 0) (by simp) HST.out)
set_option maxRecDepth 100000 in
set_option maxHeartbeats 8000000 in
theorem psdel {pv : Value} {o : Option Nat} {room : Nat} {zs : List Cel} {w : World} {t : Tre} {root : Int} (i : Nat) (h : ArV w pv o room zs) (ht : Tr zs t root) (hk : K0 t) (hsz : t.size ≤ 500000) (hi : i < t.size) :
    Calls Try.prog 12 #[.agg #[pv, .int .i64 root], .int .i64 (i : Int)] w (MP pv o room zs (PutP zs (3 * t.high + 0) (Tre.delAt i t)) (room < zs.length + (3 * t.high + 0)) w) := by
  obtain ⟨a, rfl⟩ := h.ptr
  have hb0 : Below w.heap.size w ((w.alloc (boxS (.pointer a) root)).alloc (boxS (.pointer none) 0)) := ((Below.refl _ _).alloc (Nat.le_refl _) _).alloc (by simp only [World.size_alloc]; omega) _
  have HA := Lib.hid h
  have HB0 := Lib.hid hb0
  have HM := Lib.hid (fun (X : World) (hX : Below w.heap.size w X) => psedit root (h.below hX))
  have HLN := Lib.hid fun (X : World) (hX : Below w.heap.size w X) => psisplace (i : Int) (h.below hX) ht (by omega) (by omega)
  have HPL : Hid (∀ w, Calls Try.prog 37 #[.int .i64 (i : Int)] w fun e w' => e = .returned (.int .i64 (2 * (i : Int) + 1)) ∧ w = w') := Lib.hid fun w => psplace (i : Int) w (by omega)
  have HCHA : Hid (∀ (B ge : Nat) (X : World), EDS B (.pointer a) root (zs.length : Int) room w o X o zs 0 ((ge, boxE B) :: (w.heap.size, boxS (.pointer a) root) :: (w.heap.size + 1, boxS (.pointer none) 0) :: []) → Calls Try.prog 32 #[.pointer (some ⟨B, 0, none⟩), .int .i64 root, .int .i64 (2 * (i : Int) + 1), .func (.func 39) #[] #[.pointer (some ⟨ge, 0, none⟩)]] X (EOS B (.pointer a) root (zs.length : Int) room w o zs (3 * t.high + 0) (Tre.delAt i t) ((ge, boxE B) :: (w.heap.size, boxS (.pointer a) root) :: (w.heap.size + 1, boxS (.pointer none) 0) :: []))) := Lib.hid fun B ge X hX =>
    change_any 39 #[.pointer (some ⟨ge, 0, none⟩)] (Tre.delF) 0 delF_size delF_k0 (enters_of Try.func39 (by kernel_rfl) rfl) t _ root X o [] _ _ hX ht hk hsz (by omega) (fun ex w2 o2 j hh htj => by
      obtain ⟨l, v, r, hsub⟩ := subT_place hk (by omega) (show (i : Int) < (t.size : Int) by omega)
      have hss := sub_size (t := t) (s := 2 * (i : Int) + 1)
      have hks := k0_sub (2 * (i : Int) + 1) hk
      rw [hsub] at htj hss hks ⊢
      simp only [Tre.size] at hss
      exact (del1_any ge hh (List.mem_append_right _ (by simp)) htj hks.2.1 hks.2.2 (by omega) (by omega)).mono fun e w3 h3 => h3.mono (by simp only [Tre.high]; omega))
  generalize Tre.delAt i t = T at HCHA ⊢
  generalize 3 * t.high + 0 = n at HCHA ⊢
  skip
  clear h ht hk hsz hi hb0
  go_enter Try.func12, Try.ntmps12
  go_wp2_with fail
  refine (HLN.out _ HB0.out).mono ?_
  rintro e w0 ⟨rfl, hb0⟩
  obtain ⟨m0, m1⟩ := (cellsS ((hb0.block w.heap.size (by simp only [World.size_alloc]; omega)).trans (heap_alloc_lt _ _ _ _ (heap_alloc_at _ _ _ (by simp))))).2
  go_wp2_with fail
  refine (HM.out _ (HB0.out.trans (hb0.mono HB0.out.size))).mono ?_
  rintro e w1 ⟨B, rfl, hB, hBI, hb1⟩
  have hb := hb0.trans (hb1.mono hb0.size)
  have hsz1 := hb.size
  have hsz0 := hb0.size
  have hsz2 := hb1.size
  clear m0 m1
  have J0 : Hid (EDS B (.pointer a) root (zs.length : Int) room w o (w1.alloc (boxE B)) o zs 0 ((w1.heap.size, boxE B) :: (w.heap.size, boxS (.pointer a) root) :: (w.heap.size + 1, boxS (.pointer none) 0) :: [])) := Lib.hid ((EDS.begin HA.out (HB0.out.trans (hb.mono HB0.out.size)) hBI (fun q hq => by
    simp only [World.size_alloc] at hB hsz1 hsz0
    simp only [List.mem_cons, List.not_mem_nil, or_false] at hq
    rcases hq with rfl | rfl
    · exact ⟨(hb.block _ (by simp only [World.size_alloc]; omega)).trans (heap_alloc_lt _ _ _ _ (heap_alloc_at _ _ _ (by simp))), by simp only; omega, by simp only; omega⟩
    · exact ⟨(hb.block _ (by simp only [World.size_alloc]; omega)).trans (heap_alloc_at _ _ _ (by simp)), by simp only; omega, by simp only; omega⟩) (by simp)).alloc (boxE B))
  have HGE : Hid (w.heap.size + 1 < w1.heap.size ∧ w.heap.size ≤ B) := Lib.hid (by simp only [World.size_alloc] at hB hsz1 hsz0; have := hBI.1; have := heap_lt this; omega)
  have HSB : Hid (w.heap.size ≤ B) := Lib.hid HGE.out.2
  have hs := (cellsS (J0.out.at_ (ob := boxS (.pointer a) root) (g := w.heap.size) (by simp))).2
  obtain ⟨m0, m1⟩ := hs
  clear hB hBI hb hsz1 hsz0 hsz2 hb0 hb1 HM
  have HCH0 := Lib.hid (fun X hX => HCHA.out B w1.heap.size X hX)
  obtain ⟨ge, hge⟩ : ∃ ge, ge = w1.heap.size := ⟨_, rfl⟩
  go_upto_region 4 with fail
  obtain ⟨Y, hY⟩ : ∃ Y, Y = w1.alloc (boxE B) := ⟨_, rfl⟩
  rw [← hY] at J0
  unfold boxE at hY
  rw [← hY, ← hge]
  rw [← hge] at J0 HGE HCH0
  clear hY hge m0 m1
  have J0D := Lib.hid J0.out.drew
  have HCH := Lib.hid (HCH0.out _ J0D.out)
  clear HCH0 HCHA
  refine wp_region_held_drew (S := (fun X => X.cell? ⟨ge, 0, none⟩ = some (.pointer (some ⟨B, 0, none⟩)) ∧ X.cell? ⟨w.heap.size, 1, none⟩ = some (.int .i64 root))) (by as_aux_lemma => kernel_rfl) (⟨(cellsE (J0D.out.at_ (ob := boxE B) (g := ge) (by simp))).2, (cellsS (J0D.out.at_ (ob := boxS (.pointer a) root) (g := w.heap.size) (by simp))).2.2⟩) (fun hHeld0 => ?_)
  refine wpAnyH_take (i := 0) (v := ?_) rfl (by as_aux_lemma => kernel_rfl) (by as_aux_lemma => kernel_rfl) (by as_aux_lemma => kernel_rfl) (fun _ _ _ h => h) (Or.inl ⟨by as_aux_lemma => rfl, ?yt0⟩) (by assumption) ?qt0
  case yt0 => (intro wz hSw; (try dsimp only at hSw); go_simp <;> with_reducible rfl)
  try simp only [Act.put, List.getElem_toArray, List.getElem_cons_zero, List.setIfInBounds_toArray, List.set_cons_zero, List.set_cons_succ]
  refine wpAnyH_take (i := 1) (v := ?_) rfl (by as_aux_lemma => kernel_rfl) (by as_aux_lemma => kernel_rfl) (by as_aux_lemma => kernel_rfl) (fun _ _ _ h => h) (Or.inl ⟨by as_aux_lemma => rfl, ?yt1⟩) (by assumption) ?qt1
  case yt1 => (intro wz hSw; (try dsimp only at hSw); go_simp <;> with_reducible rfl)
  try simp only [Act.put, List.getElem_toArray, List.getElem_cons_zero, List.getElem_cons_succ, List.setIfInBounds_toArray, List.set_cons_zero, List.set_cons_succ]
  refine wpAnyH_take (i := 2) (v := ?_) rfl (by as_aux_lemma => kernel_rfl) (by as_aux_lemma => kernel_rfl) (by as_aux_lemma => kernel_rfl) (fun _ _ _ h => h) (Or.inl ⟨by as_aux_lemma => rfl, ?yt2⟩) (by assumption) ?qt2
  case yt2 => (intro wz hSw; (try dsimp only at hSw); go_simp <;> with_reducible rfl)
  try simp only [Act.put, List.getElem_toArray, List.getElem_cons_zero, List.getElem_cons_succ, List.setIfInBounds_toArray, List.set_cons_zero, List.set_cons_succ]
  refine wpAnyH_take (i := 3) (v := ?_) rfl (by as_aux_lemma => kernel_rfl) (by as_aux_lemma => kernel_rfl) (by as_aux_lemma => kernel_rfl) (fun _ _ _ h => h) (Or.inl ⟨by as_aux_lemma => rfl, ?yt3⟩) (by assumption) ?qt3
  case yt3 => (intro wz hSw; (try dsimp only at hSw); go_simp <;> with_reducible rfl)
  try simp only [Act.put, List.getElem_toArray, List.getElem_cons_zero, List.getElem_cons_succ, List.setIfInBounds_toArray, List.set_cons_zero, List.set_cons_succ]
  refine wpAnyH_take (i := 4) (v := ?_) rfl (by as_aux_lemma => kernel_rfl) (by as_aux_lemma => kernel_rfl) (by as_aux_lemma => kernel_rfl) (fun _ _ _ h => h) (Or.inl ⟨by as_aux_lemma => rfl, ?yt4⟩) (by assumption) ?qt4
  case yt4 => (intro wz hSw; (try dsimp only at hSw); go_simp <;> with_reducible rfl)
  try simp only [Act.put, List.getElem_toArray, List.getElem_cons_zero, List.getElem_cons_succ, List.setIfInBounds_toArray, List.set_cons_zero, List.set_cons_succ]
  refine wpAnyH_take (i := 6) (v := ?_) rfl (by as_aux_lemma => kernel_rfl) (by as_aux_lemma => kernel_rfl) (by as_aux_lemma => kernel_rfl) (fun _ _ _ h => h) (Or.inl ⟨by as_aux_lemma => rfl, ?yt6⟩) (by assumption) ?qt6
  case yt6 => (intro wz hSw; (try dsimp only at hSw); go_simp <;> with_reducible rfl)
  try simp only [Act.put, List.getElem_toArray, List.getElem_cons_zero, List.getElem_cons_succ, List.setIfInBounds_toArray, List.set_cons_zero, List.set_cons_succ]
  refine wpAnyH_ready (rs := [5]) (by as_aux_lemma => kernel_rfl) (by simp) ?_
  refine AllReadyH.cons rfl (fun K hK => ?_) AllReadyH.nil
  go_simp
  refine (HPL.out _).mono ?_
  rintro e u1 ⟨rfl, rfl⟩
  refine hK.out _ _ (⟨(cellsE (J0D.out.at_ (ob := boxE B) (g := ge) (by simp))).2, (cellsS (J0D.out.at_ (ob := boxS (.pointer a) root) (g := w.heap.size) (by simp))).2.2⟩) (fun hHeld1 => ?_)
  clear hK K
  try simp only [Act.put, List.getElem_toArray, List.getElem_cons_zero, List.getElem_cons_succ, List.setIfInBounds_toArray, List.set_cons_zero, List.set_cons_succ]
  refine wpAnyH_ready (rs := [7]) (by as_aux_lemma => kernel_rfl) (by simp) ?_
  refine AllReadyH.cons rfl (fun K hK => ?_) AllReadyH.nil
  go_simp
  refine HCH.out.mono ?_
  rintro e u2 ⟨R, o5, hO, hlen, rfl, j5⟩
  have JB := Lib.hid j5
  have HFN := Lib.hid (psfin HSB.out j5 hO)
  clear hO hlen j5 HCH
  refine hK.out _ _ (⟨(cellsE (JB.out.at_ (ob := boxE B) (g := ge) (by simp))).2, (cellsS (JB.out.at_ (ob := boxS (.pointer a) root) (g := w.heap.size) (by simp))).2.2⟩) (fun hHeld2 => ?_)
  clear hK K
  try simp only [Act.put, List.getElem_toArray, List.getElem_cons_zero, List.getElem_cons_succ, List.setIfInBounds_toArray, List.set_cons_zero, List.set_cons_succ]
  refine wpAnyH_ready (rs := [8]) (by as_aux_lemma => kernel_rfl) (by simp) ?_
  refine AllReadyH.cons rfl (fun K hK => ?_) AllReadyH.nil
  go_simp
  refine HFN.out.mono ?_
  rintro e u3 ⟨root2, why2, zs2, o2, rfl, HE⟩
  clear HFN
  refine hK.out _ _ (⟨(cellsE (HE.out.2.2.2.2 (ge, boxE B) (by simp)).1).2, (cellsS (HE.out.2.2.2.2 (w.heap.size, boxS (.pointer a) root) (by simp)).1).2.2⟩) (fun hHeld3 => ?_)
  clear hK K
  try simp only [Act.put, List.getElem_toArray, List.getElem_cons_zero, List.getElem_cons_succ, List.setIfInBounds_toArray, List.set_cons_zero, List.set_cons_succ]
  refine wpAnyH_take (i := 9) (v := ?_) rfl (by as_aux_lemma => kernel_rfl) (by as_aux_lemma => kernel_rfl) (by as_aux_lemma => kernel_rfl) (fun _ _ _ h => h) (Or.inl ⟨by as_aux_lemma => rfl, ?yt9⟩) (by assumption) ?qt9
  case yt9 => (intro wz hSw; (try dsimp only at hSw); go_simp <;> with_reducible rfl)
  try simp only [Act.put, List.getElem_toArray, List.getElem_cons_zero, List.getElem_cons_succ, List.setIfInBounds_toArray, List.set_cons_zero, List.set_cons_succ]
  refine wpAnyH_take (i := 10) (v := ?_) rfl (by as_aux_lemma => kernel_rfl) (by as_aux_lemma => kernel_rfl) (by as_aux_lemma => kernel_rfl) (fun _ _ _ h => h) (Or.inl ⟨by as_aux_lemma => rfl, ?yt10⟩) (by assumption) ?qt10
  case yt10 => (intro wz hSw; (try dsimp only at hSw); go_simp <;> with_reducible rfl)
  try simp only [Act.put, List.getElem_toArray, List.getElem_cons_zero, List.getElem_cons_succ, List.setIfInBounds_toArray, List.set_cons_zero, List.set_cons_succ]
  refine wpAnyH_ready (rs := [11]) (by as_aux_lemma => kernel_rfl) (by simp) ?_
  refine AllReadyH.cons rfl (fun K hK => ?_) AllReadyH.nil
  refine wp_store_seq (.tmp 4) (.tmp 25) rfl (w.heap.size + 1) a none root2 0 rfl rfl (HE.out.2.2.2.2 (w.heap.size + 1, boxS (.pointer none) 0) (by simp)).1 ?_
  intro u4 hst
  have HST := Lib.hid hst
  clear hst
  refine hK.out _ _ (⟨(cellsE ((HST.out.2.2.2.2.2 ge (by have := HGE.out; omega)).trans (HE.out.2.2.2.2 (ge, boxE B) (by simp)).1)).2, (cellsS ((HST.out.2.2.2.2.2 w.heap.size (by omega)).trans (HE.out.2.2.2.2 (w.heap.size, boxS (.pointer a) root) (by simp)).1)).2.2⟩) (fun hHeld4 => ?_)
  clear hK K
  try simp only [Act.put, List.getElem_toArray, List.getElem_cons_zero, List.getElem_cons_succ]
  refine wpAnyH_take (i := 12) (v := ?_) rfl (by as_aux_lemma => kernel_rfl) (by as_aux_lemma => kernel_rfl) (by as_aux_lemma => kernel_rfl) (fun _ _ _ h => h) (Or.inl ⟨by as_aux_lemma => rfl, ?yt12⟩) (by assumption) ?qt12
  case yt12 => (intro wz hSw; (try dsimp only at hSw); go_simp <;> with_reducible rfl)
  try simp only [Act.put, List.getElem_toArray, List.getElem_cons_zero, List.getElem_cons_succ, List.setIfInBounds_toArray, List.set_cons_zero, List.set_cons_succ]
  refine wpAnyH_done (by as_aux_lemma => kernel_rfl) ?_ _
  obtain ⟨_, r0, r1⟩ := cellsS HST.out.2.2.2.2.1
  go_wp2_with fail
  exact bodyPost_ret (v := .tuple #[.agg #[.pointer a, .int .i64 root2], .int .i64 why2]) (by simp [results, Try.results12, go_sem, r0, r1]) rfl (sfin_end HE.out (gr := w.heap.size + 1) (ob := boxS (.pointer none) 0) (by simp) HST.out)
set_option maxRecDepth 100000 in
set_option maxHeartbeats 8000000 in
theorem psinsert_none {pv : Value} {o : Option Nat} {room : Nat} {zs : List Cel} {w : World} {t : Tre} {root : Int} (i : Int) (val : Int) (h : ArV w pv o room zs) (ht : Tr zs t root) (hi : i < 0 ∨ (t.size : Int) < i) :
    Calls Try.prog 10 #[.agg #[pv, .int .i64 root], .int .i64 i, .int .i64 val] w (DoneY pv 0 1 w) := by
  obtain ⟨a, rfl⟩ := h.ptr
  have hb0 : Below w.heap.size w (((w.alloc (boxS (.pointer a) root)).alloc (boxI val)).alloc (boxS (.pointer none) 0)) := (((Below.refl _ _).alloc (Nat.le_refl _) _).alloc (by simp only [World.size_alloc]; omega) _).alloc (by simp only [World.size_alloc]; omega) _
  have HB0 := Lib.hid hb0
  have HN := Lib.hid (fun (X : World) (hX : Below w.heap.size w X) => psnew (h.below hX))
  by_cases hi0 : i < 0
  · have HLN := Lib.hid fun (X : World) (hX : Below w.heap.size w X) => pslen (h.below hX) ht
    have h1 : i < 0 := hi0
    clear h ht hi hi0
    go_enter Try.func10, Try.ntmps10
    have HX : Hid (Below w.heap.size w (((w.alloc (boxS (.pointer a) root)).alloc (boxI val)).alloc (boxS (.pointer none) 0)) ∧ ((((w.alloc (boxS (.pointer a) root)).alloc (boxI val)).alloc (boxS (.pointer none) 0))).heap[w.heap.size + 2]? = some (boxS (.pointer none) 0)) := Lib.hid ⟨hb0, heap_alloc_at _ _ _ (by simp)⟩
    clear hb0 HLN
    go_wp2_with fail
    refine (HN.out _ HX.out.1).mono ?_
    rintro e w2 ⟨rfl, hb⟩
    have HS : Hid (w2.heap[w.heap.size + 2]? = some (boxS (.pointer none) 0) ∧ Below w.heap.size w w2) := Lib.hid ⟨(hb.block _ (heap_lt HX.out.2)).trans HX.out.2, HX.out.1.trans (hb.mono HX.out.1.size)⟩
    clear hb HX
    go_wp2_with (refine wpList_store_seq rfl (.tmp 6) (.tmp 19) rfl (w.heap.size + 2) a none 0 0 rfl rfl HS.out.1 ?_; intro w4 hst; have HST := Lib.hid hst; obtain ⟨_, r0, r1⟩ := cellsS hst.2.2.2.2.1; clear hst)
    exact bodyPost_ret (v := .tuple #[.agg #[.pointer a, .int .i64 0], .int .i64 1]) (by simp [results, Try.results10, go_sem, r0, r1]) rfl ⟨rfl, HST.out.below HS.out.2 (by omega)⟩
  · have HLN := Lib.hid fun (X : World) (hX : Below w.heap.size w X) => pslen (h.below hX) ht
    have h1 : ¬ i < 0 := hi0
    have h2 : (t.size : Int) < i := by omega
    clear h ht hi hi0
    go_enter Try.func10, Try.ntmps10
    go_wp2_with fail
    refine (HLN.out _ HB0.out).mono ?_
    rintro e w1 ⟨rfl, hb1⟩
    have HX : Hid (Below w.heap.size w w1 ∧ w1.heap[w.heap.size + 2]? = some (boxS (.pointer none) 0)) := Lib.hid ⟨HB0.out.trans (hb1.mono HB0.out.size), (hb1.block _ (by simp only [World.size_alloc]; omega)).trans (heap_alloc_at _ _ _ (by simp))⟩
    obtain ⟨m0, m1⟩ := (cellsS ((hb1.block w.heap.size (by simp only [World.size_alloc]; omega)).trans (heap_alloc_lt _ _ _ _ (heap_alloc_lt _ _ _ _ (heap_alloc_at _ _ _ (by simp)))))).2
    clear hb1
    clear hb0
    go_wp2_with fail
    refine (HN.out _ HX.out.1).mono ?_
    rintro e w2 ⟨rfl, hb⟩
    have HS : Hid (w2.heap[w.heap.size + 2]? = some (boxS (.pointer none) 0) ∧ Below w.heap.size w w2) := Lib.hid ⟨(hb.block _ (heap_lt HX.out.2)).trans HX.out.2, HX.out.1.trans (hb.mono HX.out.1.size)⟩
    clear hb HX
    go_wp2_with (refine wpList_store_seq rfl (.tmp 6) (.tmp 19) rfl (w.heap.size + 2) a none 0 0 rfl rfl HS.out.1 ?_; intro w4 hst; have HST := Lib.hid hst; obtain ⟨_, r0, r1⟩ := cellsS hst.2.2.2.2.1; clear hst)
    exact bodyPost_ret (v := .tuple #[.agg #[.pointer a, .int .i64 0], .int .i64 1]) (by simp [results, Try.results10, go_sem, r0, r1]) rfl ⟨rfl, HST.out.below HS.out.2 (by omega)⟩
set_option maxRecDepth 100000 in
set_option maxHeartbeats 8000000 in
theorem psset_none {pv : Value} {o : Option Nat} {room : Nat} {zs : List Cel} {w : World} {t : Tre} {root : Int} (i : Int) (val : Int) (h : ArV w pv o room zs) (ht : Tr zs t root) (hi : ¬ (0 ≤ i ∧ i < (t.size : Int))) :
    Calls Try.prog 11 #[.agg #[pv, .int .i64 root], .int .i64 i, .int .i64 val] w (DoneY pv 0 1 w) := by
  obtain ⟨a, rfl⟩ := h.ptr
  have hb0 : Below w.heap.size w (((w.alloc (boxS (.pointer a) root)).alloc (boxI val)).alloc (boxS (.pointer none) 0)) := (((Below.refl _ _).alloc (Nat.le_refl _) _).alloc (by simp only [World.size_alloc]; omega) _).alloc (by simp only [World.size_alloc]; omega) _
  have HB0 := Lib.hid hb0
  have HN := Lib.hid (fun (X : World) (hX : Below w.heap.size w X) => psnew (h.below hX))
  have HLN := Lib.hid fun (X : World) (hX : Below w.heap.size w X) => psnoplace i (h.below hX) ht hi
  clear h ht hi 
  go_enter Try.func11, Try.ntmps11
  go_wp2_with fail
  refine (HLN.out _ HB0.out).mono ?_
  rintro e w1 ⟨rfl, hb1⟩
  have HX : Hid (Below w.heap.size w w1 ∧ w1.heap[w.heap.size + 2]? = some (boxS (.pointer none) 0)) := Lib.hid ⟨HB0.out.trans (hb1.mono HB0.out.size), (hb1.block _ (by simp only [World.size_alloc]; omega)).trans (heap_alloc_at _ _ _ (by simp))⟩
  obtain ⟨m0, m1⟩ := (cellsS ((hb1.block w.heap.size (by simp only [World.size_alloc]; omega)).trans (heap_alloc_lt _ _ _ _ (heap_alloc_lt _ _ _ _ (heap_alloc_at _ _ _ (by simp)))))).2
  clear hb1
  clear hb0
  go_wp2_with fail
  refine (HN.out _ HX.out.1).mono ?_
  rintro e w2 ⟨rfl, hb⟩
  have HS : Hid (w2.heap[w.heap.size + 2]? = some (boxS (.pointer none) 0) ∧ Below w.heap.size w w2) := Lib.hid ⟨(hb.block _ (heap_lt HX.out.2)).trans HX.out.2, HX.out.1.trans (hb.mono HX.out.1.size)⟩
  clear hb HX
  go_wp2_with (refine wpList_store_seq rfl (.tmp 6) (.tmp 15) rfl (w.heap.size + 2) a none 0 0 rfl rfl HS.out.1 ?_; intro w4 hst; have HST := Lib.hid hst; obtain ⟨_, r0, r1⟩ := cellsS hst.2.2.2.2.1; clear hst)
  exact bodyPost_ret (v := .tuple #[.agg #[.pointer a, .int .i64 0], .int .i64 1]) (by simp [results, Try.results11, go_sem, r0, r1]) rfl ⟨rfl, HST.out.below HS.out.2 (by omega)⟩
set_option maxRecDepth 100000 in
set_option maxHeartbeats 8000000 in
theorem psdel_none {pv : Value} {o : Option Nat} {room : Nat} {zs : List Cel} {w : World} {t : Tre} {root : Int} (i : Int) (h : ArV w pv o room zs) (ht : Tr zs t root) (hi : ¬ (0 ≤ i ∧ i < (t.size : Int))) :
    Calls Try.prog 12 #[.agg #[pv, .int .i64 root], .int .i64 i] w (DoneY pv 0 1 w) := by
  obtain ⟨a, rfl⟩ := h.ptr
  have hb0 : Below w.heap.size w ((w.alloc (boxS (.pointer a) root)).alloc (boxS (.pointer none) 0)) := ((Below.refl _ _).alloc (Nat.le_refl _) _).alloc (by simp only [World.size_alloc]; omega) _
  have HB0 := Lib.hid hb0
  have HN := Lib.hid (fun (X : World) (hX : Below w.heap.size w X) => psnew (h.below hX))
  have HLN := Lib.hid fun (X : World) (hX : Below w.heap.size w X) => psnoplace i (h.below hX) ht hi
  clear h ht hi 
  go_enter Try.func12, Try.ntmps12
  go_wp2_with fail
  refine (HLN.out _ HB0.out).mono ?_
  rintro e w1 ⟨rfl, hb1⟩
  have HX : Hid (Below w.heap.size w w1 ∧ w1.heap[w.heap.size + 1]? = some (boxS (.pointer none) 0)) := Lib.hid ⟨HB0.out.trans (hb1.mono HB0.out.size), (hb1.block _ (by simp only [World.size_alloc]; omega)).trans (heap_alloc_at _ _ _ (by simp))⟩
  obtain ⟨m0, m1⟩ := (cellsS ((hb1.block w.heap.size (by simp only [World.size_alloc]; omega)).trans (heap_alloc_lt _ _ _ _ (heap_alloc_at _ _ _ (by simp))))).2
  clear hb1
  clear hb0
  go_wp2_with fail
  refine (HN.out _ HX.out.1).mono ?_
  rintro e w2 ⟨rfl, hb⟩
  have HS : Hid (w2.heap[w.heap.size + 1]? = some (boxS (.pointer none) 0) ∧ Below w.heap.size w w2) := Lib.hid ⟨(hb.block _ (heap_lt HX.out.2)).trans HX.out.2, HX.out.1.trans (hb.mono HX.out.1.size)⟩
  clear hb HX
  go_wp2_with (refine wpList_store_seq rfl (.tmp 4) (.tmp 13) rfl (w.heap.size + 1) a none 0 0 rfl rfl HS.out.1 ?_; intro w4 hst; have HST := Lib.hid hst; obtain ⟨_, r0, r1⟩ := cellsS hst.2.2.2.2.1; clear hst)
  exact bodyPost_ret (v := .tuple #[.agg #[.pointer a, .int .i64 0], .int .i64 1]) (by simp [results, Try.results12, go_sem, r0, r1]) rfl ⟨rfl, HST.out.below HS.out.2 (by omega)⟩
end Go.Proofs.Ytbgepeokadmemaa.F
namespace Go.Proofs.Ytbgepeokadmemaa.F
open Go.ChangeShapes Go.WideShapes Go.ChangeAt Go.RowKit Base
/-- A tree of a list, by halves. -/
def mkN (l : List Int) : Tre := match h : l with
  | [] => .nil
  | p :: t => .node (mkN (l.take (l.length / 2))) 0 (l.getD (l.length / 2) 0) (mkN (l.drop (l.length / 2 + 1)))
termination_by l.length
decreasing_by
  all_goals (subst h; simp; omega)
theorem mkN_nil : mkN [] = .nil := by rw [mkN]
theorem mkN_node {l : List Int} (h : 0 < l.length) : mkN l = .node (mkN (l.take (l.length / 2))) 0 (l.getD (l.length / 2) 0) (mkN (l.drop (l.length / 2 + 1))) := by
  cases l with
  | nil => simp at h
  | cons p t => rw [mkN]
theorem int_split {l : List Int} {k : Nat} (hk : k < l.length) : l = l.take k ++ l.getD k 0 :: l.drop (k + 1) := by
  have h1 : l.getD k 0 = l[k] := by rw [List.getD_eq_getElem?_getD, List.getElem?_eq_getElem hk]; rfl
  rw [h1, ← List.drop_eq_getElem_cons hk, List.take_append_drop]
theorem mkN_vals : ∀ (n : Nat) (l : List Int), l.length = n → (mkN l).vals = l := by
  intro n
  induction n using Nat.strongRecOn with
  | ind n ih =>
    intro l hl
    by_cases h0 : l.length = 0
    · rw [List.length_eq_zero_iff.1 h0, mkN_nil]; rfl
    · have hm : l.length / 2 < l.length := by omega
      rw [mkN_node (by omega), Tre.vals, ih _ (by rw [List.length_take]; omega) (l.take (l.length / 2)) rfl, ih _ (by rw [List.length_drop]; omega) (l.drop (l.length / 2 + 1)) rfl]
      exact (int_split hm).symm
theorem mkN_size (l : List Int) : (mkN l).size = l.length := by rw [← Tre.vals_len, mkN_vals _ l rfl]
theorem mkN_k0 : ∀ (n : Nat) (l : List Int), l.length = n → K0 (mkN l) := by
  intro n
  induction n using Nat.strongRecOn with
  | ind n ih =>
    intro l hl
    by_cases h0 : l.length = 0
    · rw [List.length_eq_zero_iff.1 h0, mkN_nil]; trivial
    · rw [mkN_node (by omega)]
      exact ⟨rfl, ih _ (by rw [List.length_take]; omega) (l.take (l.length / 2)) rfl, ih _ (by rw [List.length_drop]; omega) (l.drop (l.length / 2 + 1)) rfl⟩
theorem mkN_high : ∀ (n : Nat) (l : List Int), l.length = n → (mkN l).high = hg n ∧ (mkN l).bal := by
  intro n
  induction n using Nat.strongRecOn with
  | ind n ih =>
    intro l hl
    by_cases h0 : l.length = 0
    · rw [List.length_eq_zero_iff.1 h0, mkN_nil, ← hl, h0, hg_zero]; exact ⟨rfl, trivial⟩
    · rw [mkN_node (by omega)]
      have h1 := ih _ (by rw [List.length_take]; omega) (l.take (l.length / 2)) rfl
      have h2 := ih _ (by rw [List.length_drop]; omega) (l.drop (l.length / 2 + 1)) rfl
      rw [List.length_take, Nat.min_eq_left (by omega)] at h1
      rw [List.length_drop] at h2
      have h3 : hg (l.length - (l.length / 2 + 1)) ≤ hg (l.length / 2) ∧ hg (l.length / 2) ≤ hg (l.length - (l.length / 2 + 1)) + 1 := by
        rcases (show l.length - (l.length / 2 + 1) = l.length / 2 ∨ l.length / 2 = l.length - (l.length / 2 + 1) + 1 by omega) with e | e
        · rw [e]; omega
        · have := hg_step (l.length - (l.length / 2 + 1)); rw [← e] at this; omega
      simp only [Tre.high, Tre.bal]
      refine ⟨?_, h1.2, h2.2, ?_, ?_⟩
      · have e := hg_pos (show 0 < l.length by omega)
        rw [h1.1, h2.1, ← hl, e]; omega
      · rw [h1.1, h2.1]; omega
      · rw [h1.1, h2.1]; omega
/-- A list of numbers in memory, beside some blocks. -/
def NL (w : World) (v : Value) (l : List Int) (F : Nat → Prop) : Prop :=
  (l = [] ∧ ∃ p c, v = .slice p 0 c) ∨ ∃ g off c, v = .slice (some ⟨g, off, none⟩) l.length c ∧ l.length ≤ c ∧ g < w.heap.size ∧ ¬ F g ∧ ∀ k, k < l.length → w.cell? ⟨g, off + k, none⟩ = some (.int .i64 (l.getD k 0))
theorem NL.keep {w w' : World} {v : Value} {l : List Int} {F F' : Nat → Prop} (h : NL w v l F) (hs : w.heap.size ≤ w'.heap.size) (hk : ∀ g, g < w.heap.size → ¬ F g → w'.heap[g]? = w.heap[g]? ∧ ¬ F' g) : NL w' v l F' := by
  rcases h with h | ⟨g, off, c, hv, h1, h2, h3, h4⟩
  · exact .inl h
  · refine .inr ⟨g, off, c, hv, h1, Nat.lt_of_lt_of_le h2 hs, (hk g h2 h3).2, fun k hk' => ?_⟩
    have key : w'.cell? ⟨g, off + k, none⟩ = w.cell? ⟨g, off + k, none⟩ := World.cell?_of_block (a := ⟨g, off + k, none⟩) (hk g h2 h3).1
    rw [key]
    exact h4 k hk'
theorem EDS.nl {B : Nat} {pv : Value} {root had : Int} {room : Nat} {w0 w : World} {o0 o : Option Nat} {zs : List Cel} {why : Int} {bs : List (Nat × Obj)} (h : EDS B pv root had room w0 o0 w o zs why bs) {v : Value} {l : List Int} (hp : NL w0 v l (BF B pv o0)) : NL w v l (BF B pv o) :=
  hp.keep h.2.2.1.size fun g hg hn => ⟨h.2.2.1.block hg hn, fun k => hn (h.2.1.bf g hg k)⟩
theorem NL.cut {w : World} {g off c : Nat} {l : List Int} {F : Nat → Prop} (hc : l.length ≤ c) (hg : g < w.heap.size) (hF : ¬ F g) (h : ∀ k, k < l.length → w.cell? ⟨g, off + k, none⟩ = some (.int .i64 (l.getD k 0))) {n : Nat} (hn : n ≤ l.length) : NL w (.slice (some ⟨g, off, none⟩) n c) (l.take n) F := by
  have hl : (l.take n).length = n := by rw [List.length_take]; omega
  refine .inr ⟨g, off, c, by rw [hl], by omega, hg, hF, fun k hk => ?_⟩
  rw [hl] at hk
  have : (l.take n).getD k 0 = l.getD k 0 := by
    rw [List.getD_eq_getElem?_getD, List.getD_eq_getElem?_getD, List.getElem?_take, if_pos hk]
  rw [this]
  exact h k (by omega)
theorem NL.rest {w : World} {g off c : Nat} {l : List Int} {F : Nat → Prop} (hc : l.length ≤ c) (hg : g < w.heap.size) (hF : ¬ F g) (h : ∀ k, k < l.length → w.cell? ⟨g, off + k, none⟩ = some (.int .i64 (l.getD k 0))) {n : Nat} (hn : n ≤ l.length) : NL w (.slice (some ⟨g, (if c = n then off else off + n), none⟩) (l.length - n) (c - n)) (l.drop n) F := by
  have hl : (l.drop n).length = l.length - n := by rw [List.length_drop]
  by_cases e : l.length = n
  · refine .inl ⟨by rw [List.drop_eq_nil_iff]; omega, _, _, by rw [show l.length - n = 0 by omega]⟩
  · refine .inr ⟨g, off + n, c - n, by rw [hl, if_neg (by omega)], by omega, hg, hF, fun k hk => ?_⟩
    rw [hl] at hk
    have : (l.drop n).getD k 0 = l.getD (n + k) 0 := by
      rw [List.getD_eq_getElem?_getD, List.getD_eq_getElem?_getD, List.getElem?_drop]
    rw [this]
    have := h (n + k) (by omega)
    rw [show off + n + k = off + (n + k) by omega]
    exact this
theorem num_elem : Try.prog.elem 29 = 3 := by kernel_rfl
theorem num_size (wx : World) : (sizeOf 3).run Try.prog wx = .ok 1 wx := by kernel_rfl
theorem nslice_hd (g off len c m : Nat) (h : m ≤ len) (hc : len ≤ c) (wx : World) : (Instr.sliceAt 29 (.slice (some ⟨g, off, none⟩) len c) none (some (.int .i64 (m : Int))) none).run Try.prog wx = .ok (.slice (some ⟨g, off, none⟩) m c) wx := by
  rw [run_sliceAt_slice _ _ _ _ _ _ (by kernel_rfl), run_slice_h wx _ _ _ _ (by kernel_rfl) _ _ (by omega) (by omega), num_elem, num_size]
  simp only [Result.andThen, sliced, Int.toNat_natCast, Nat.sub_zero]
  simp [Addr.add]
theorem nslice_tl (g off len c m : Nat) (h : m + 1 ≤ len) (wx : World) : (Instr.sliceAt 29 (.slice (some ⟨g, off, none⟩) len c) (some (.int .i64 ((m : Int) + 1))) none none).run Try.prog wx = .ok (.slice (some ⟨g, (if c = m + 1 then off else off + (m + 1)), none⟩) (len - (m + 1)) (c - (m + 1))) wx := by
  rw [run_sliceAt_slice _ _ _ _ _ _ (by kernel_rfl), run_slice_l wx _ _ _ _ (by kernel_rfl) _ _ (by omega) (by omega), num_elem, num_size]
  simp only [Result.andThen, sliced, show ((m : Int) + 1).toNat = m + 1 by omega]
  by_cases e : c = m + 1
  · rw [if_pos e, if_pos e]
  · rw [if_neg e, if_neg e]; simp [Addr.add]
theorem EDS.oldcell {B : Nat} {pv : Value} {root had : Int} {room : Nat} {w0 w : World} {o0 o : Option Nat} {zs : List Cel} {why : Int} {bs : List (Nat × Obj)} (h : EDS B pv root had room w0 o0 w o zs why bs) {g : Nat} (hg : g < w0.heap.size) (hF : ¬ BF B pv o0 g) (j : Nat) : w.cell? ⟨g, j, none⟩ = w0.cell? ⟨g, j, none⟩ :=
  World.cell?_of_block (a := ⟨g, j, none⟩) (h.2.2.1.block hg hF)
set_option maxHeartbeats 8000000 in
set_option maxRecDepth 100000 in
theorem eall {B : Nat} {pv : Value} {root had : Int} {room : Nat} : ∀ (n : Nat) (l : List Int) (v : Value) (w : World) (o : Option Nat) (zs : List Cel) (why : Int), l.length = n → n ≤ 100000 → (∀ x ∈ l, -9223372036854775808 ≤ x ∧ x ≤ 9223372036854775807) → EDI w B pv o root had room zs why → (why = 0 ∨ (why = 2 ∧ zs.length = room)) → NL w v l (BF B pv o) →
    Calls Try.prog 43 #[.pointer (some ⟨B, 0, none⟩), v] w fun e w' => ∃ R, OX room zs why n (mkN l) R ∧ EDP B pv o root had room R.1 R.2.1 (.int .i64 R.2.2) w e w' := by
  intro n
  induction n using Nat.strongRecOn with
  | ind n ih =>
    intro l v w o zs why hl hn hok h hst hp
    obtain ⟨a, rfl⟩ : ∃ a, pv = .pointer a := by
      rcases h.2 with ⟨rfl, _⟩ | ⟨b, rfl, _⟩
      · exact ⟨_, rfl⟩
      · exact ⟨_, rfl⟩
    by_cases h0 : l.length = 0
    · have hl0 := List.length_eq_zero_iff.1 h0
      subst hl0
      obtain ⟨p, c, rfl⟩ : ∃ p c, v = .slice p 0 c := by
        rcases hp with ⟨_, h⟩ | ⟨g, off, c, h, _⟩
        · exact h
        · exact ⟨_, c, h⟩
      have HF : Hid (∃ R, OX room zs why n (mkN []) R ∧ EDP B (.pointer a) o root had room R.1 R.2.1 (.int .i64 R.2.2) w (.returned (.int .i64 0)) w) := Lib.hid (by
        rw [mkN_nil, ← hl]
        rcases hst with rfl | ⟨rfl, hf⟩
        · exact ⟨(zs, 0, 0), .inl ⟨rfl, [], by simp, .inl ⟨rfl, rfl, rfl⟩⟩, (EDS.start h).done _⟩
        · exact ⟨(zs, 2, 0), .inr ⟨rfl, hf, rfl⟩, (EDS.start h).done _⟩)
      clear hok h hst hp hl ih
      go_enter Try.func43, Try.ntmps43
      go_wp2
      go_ret
      exact HF.out
    · rcases hp with ⟨h1, _⟩ | ⟨g, off, c, rfl, hlc, hg, hF, hcells⟩
      · exact absurd (by rw [h1]; rfl) h0
      have hmid : l.length / 2 < l.length := by omega
      have P0 := Lib.hid (NL.cut (w := w) (F := BF B (.pointer a) o) hlc hg hF hcells (Nat.le_of_lt hmid))
      have P1 := Lib.hid (NL.rest (w := w) (F := BF B (.pointer a) o) hlc hg hF hcells (n := l.length / 2 + 1) (by omega))
      have hpk := hok (l.getD (l.length / 2) 0) (by rw [List.getD_eq_getElem?_getD, List.getElem?_eq_getElem hmid]; exact List.getElem_mem hmid)
      have ck := hcells _ hmid
      have HT : Hid (mkN l = .node (mkN (l.take (l.length / 2))) 0 (l.getD (l.length / 2) 0) (mkN (l.drop (l.length / 2 + 1)))) := Lib.hid (mkN_node (by omega))
      have hs1 := mkN_size (l.take (l.length / 2))
      have hs2 := mkN_size (l.drop (l.length / 2 + 1))
      have IH1 : Hid (∀ (X : World) (o' : Option Nat), EDI X B (.pointer a) o' root had room zs why → NL X (.slice (some ⟨g, off, none⟩) (l.length / 2) c) (l.take (l.length / 2)) (BF B (.pointer a) o') → Calls Try.prog 43 #[.pointer (some ⟨B, 0, none⟩), .slice (some ⟨g, off, none⟩) (l.length / 2) c] X fun e w' => ∃ R, OX room zs why (l.length / 2) (mkN (l.take (l.length / 2))) R ∧ EDP B (.pointer a) o' root had room R.1 R.2.1 (.int .i64 R.2.2) X e w') := Lib.hid fun X o' hX hP => ih _ (by omega) _ _ X o' zs why (by rw [List.length_take]; omega) (by omega) (fun p hp => hok p (List.mem_of_mem_take hp)) hX hst hP
      have IH2 : Hid (∀ (X : World) (o' : Option Nat) (zs1 : List Cel) (why1 : Int), EDI X B (.pointer a) o' root had room zs1 why1 → (why1 = 0 ∨ (why1 = 2 ∧ zs1.length = room)) → NL X (.slice (some ⟨g, (if c = l.length / 2 + 1 then off else off + (l.length / 2 + 1)), none⟩) (l.length - (l.length / 2 + 1)) (c - (l.length / 2 + 1))) (l.drop (l.length / 2 + 1)) (BF B (.pointer a) o') → Calls Try.prog 43 #[.pointer (some ⟨B, 0, none⟩), .slice (some ⟨g, (if c = l.length / 2 + 1 then off else off + (l.length / 2 + 1)), none⟩) (l.length - (l.length / 2 + 1)) (c - (l.length / 2 + 1))] X fun e w' => ∃ R, OX room zs1 why1 (l.length - (l.length / 2 + 1)) (mkN (l.drop (l.length / 2 + 1))) R ∧ EDP B (.pointer a) o' root had room R.1 R.2.1 (.int .i64 R.2.2) X e w') := Lib.hid fun X o' zs1 why1 hX hs hP => ih _ (by omega) _ _ X o' zs1 why1 (by rw [List.length_drop]) (by omega) (fun p hp => hok p (List.mem_of_mem_drop hp)) hX hs hP
      have J0 : Hid (EDS B (.pointer a) root had room w o w o zs why []) := Lib.hid (EDS.start h)
      have hle := h.2.le
      rw [HT.out]
      have HFg := Lib.hid hF
      clear ih hst hok h HT hcells hF
      rw [List.length_take, Nat.min_eq_left (Nat.le_of_lt hmid)] at hs1
      rw [List.length_drop] at hs2
      generalize l.getD (l.length / 2) 0 = pk at hpk ck ⊢
      generalize l.take (l.length / 2) = l1 at *
      generalize l.drop (l.length / 2 + 1) = l2 at *
      generalize hm : l.length / 2 = m at *
      generalize l.length = len at *
      subst hl
      have hml : m ≤ len := by omega
      have hml1 : m + 1 ≤ len := by omega
      have h0' : ((len : Int) == 0) = false := by rw [beq_eq_false_iff_ne]; omega
      have hmi : (m : Int) < (len : Int) := by omega
      have hmb : -9223372036854775808 ≤ (m : Int) ∧ (m : Int) ≤ 9223372036854775807 := by omega
      have hw1 : IntKind.i64.wrap ((m : Int) + 1) = (m : Int) + 1 := IntWalk.i64_in _ (by omega)
      have hq2 : (len : Int) / 2 = (m : Int) := by rw [half_div, hm]
      have hq : wrap64 ((len : Int) / 2) = (m : Int) := by rw [hq2]; exact IntWalk.wrap64_in _ hmb
      obtain ⟨off2, ho2⟩ : ∃ off2, off2 = if c = m + 1 then off else off + (m + 1) := ⟨_, rfl⟩
      rw [← ho2] at P1 IH2
      have hs1' := nslice_hd g off len c m hml hlc
      have hs2' := nslice_tl g off len c m hml1
      rw [← ho2] at hs2'
      have HS := Lib.hid (And.intro hs1 hs2)
      have HPK := Lib.hid hpk
      have HLE := Lib.hid hle
      have HLC := Lib.hid (And.intro hlc (And.intro hml1 hn))
      clear hm h0 ho2 hq2 hmid hs1 hs2 hpk hle hlc hml hml1 hn hmb
      go_enter Try.func43, Try.ntmps43
      go_upto_region 4 with fail
      have JD0 := Lib.hid J0.out.drew
      refine wp_region_held_drew (S := (fun _ => True)) (by kernel_rfl) trivial (fun hHeld0 => ?_)
      refine wpAnyH_take (i := 0) (v := ?_) rfl (by as_aux_lemma => kernel_rfl) (by as_aux_lemma => kernel_rfl) (by as_aux_lemma => kernel_rfl) (fun _ _ _ h => h) (Or.inl ⟨by as_aux_lemma => rfl, ?yt0⟩) (by assumption) ?qt0
      case yt0 => (intro wz hSw; (try dsimp only at hSw); go_simp <;> with_reducible rfl)
      try simp only [Act.put, List.getElem_toArray, List.getElem_cons_zero, List.setIfInBounds_toArray, List.set_cons_zero, List.set_cons_succ]
      refine wpAnyH_take (i := 1) (v := ?_) rfl (by as_aux_lemma => kernel_rfl) (by as_aux_lemma => kernel_rfl) (by as_aux_lemma => kernel_rfl) (fun _ _ _ h => h) (Or.inl ⟨by as_aux_lemma => rfl, ?yt1⟩) (by assumption) ?qt1
      case yt1 => (intro wz hSw; (try dsimp only at hSw); go_simp <;> with_reducible rfl)
      try simp only [Act.put, List.getElem_toArray, List.getElem_cons_zero, List.getElem_cons_succ, List.setIfInBounds_toArray, List.set_cons_zero, List.set_cons_succ]
      refine wpAnyH_take (i := 2) (v := ?_) rfl (by as_aux_lemma => kernel_rfl) (by as_aux_lemma => kernel_rfl) (by as_aux_lemma => kernel_rfl) (fun _ _ _ h => h) (Or.inl ⟨by as_aux_lemma => rfl, ?yt2⟩) (by assumption) ?qt2
      case yt2 => (intro wz hSw; (try dsimp only at hSw); go_simp <;> with_reducible rfl)
      try simp only [Act.put, List.getElem_toArray, List.getElem_cons_zero, List.getElem_cons_succ, List.setIfInBounds_toArray, List.set_cons_zero, List.set_cons_succ]
      refine wpAnyH_take (i := 3) (v := ?_) rfl (by as_aux_lemma => kernel_rfl) (by as_aux_lemma => kernel_rfl) (by as_aux_lemma => kernel_rfl) (fun _ _ _ h => h) (Or.inl ⟨by as_aux_lemma => rfl, ?yt3⟩) (by assumption) ?qt3
      case yt3 => (intro wz hSw; (try dsimp only at hSw); go_simp <;> with_reducible rfl)
      try simp only [Act.put, List.getElem_toArray, List.getElem_cons_zero, List.getElem_cons_succ, List.setIfInBounds_toArray, List.set_cons_zero, List.set_cons_succ]
      refine wpAnyH_take (i := 5) (v := ?_) rfl (by as_aux_lemma => kernel_rfl) (by as_aux_lemma => kernel_rfl) (by as_aux_lemma => kernel_rfl) (fun _ _ _ h => h) (Or.inl ⟨by as_aux_lemma => rfl, ?yt5⟩) (by assumption) ?qt5
      case yt5 => (intro wz hSw; (try dsimp only at hSw); go_simp <;> with_reducible rfl)
      try simp only [Act.put, List.getElem_toArray, List.getElem_cons_zero, List.getElem_cons_succ, List.setIfInBounds_toArray, List.set_cons_zero, List.set_cons_succ]
      refine wpAnyH_take (i := 6) (v := ?_) rfl (by as_aux_lemma => kernel_rfl) (by as_aux_lemma => kernel_rfl) (by as_aux_lemma => kernel_rfl) (fun _ _ _ h => h) (Or.inl ⟨by as_aux_lemma => rfl, ?yt6⟩) (by assumption) ?qt6
      case yt6 => (intro wz hSw; (try dsimp only at hSw); go_simp <;> with_reducible rfl)
      try simp only [Act.put, List.getElem_toArray, List.getElem_cons_zero, List.getElem_cons_succ, List.setIfInBounds_toArray, List.set_cons_zero, List.set_cons_succ]
      refine wpAnyH_take (i := 7) (v := ?_) rfl (by as_aux_lemma => kernel_rfl) (by as_aux_lemma => kernel_rfl) (by as_aux_lemma => kernel_rfl) (fun _ _ _ h => h) (Or.inl ⟨by as_aux_lemma => rfl, ?yt7⟩) (by assumption) ?qt7
      case yt7 => (intro wz hSw; (try dsimp only at hSw); go_simp <;> with_reducible rfl)
      try simp only [Act.put, List.getElem_toArray, List.getElem_cons_zero, List.getElem_cons_succ, List.setIfInBounds_toArray, List.set_cons_zero, List.set_cons_succ]
      refine wpAnyH_take (i := 8) (v := ?_) rfl (by as_aux_lemma => kernel_rfl) (by as_aux_lemma => kernel_rfl) (by as_aux_lemma => kernel_rfl) (fun _ _ _ h => h) (Or.inl ⟨by as_aux_lemma => rfl, ?yt8⟩) (by assumption) ?qt8
      case yt8 => (intro wz hSw; (try dsimp only at hSw); go_simp <;> with_reducible rfl)
      try simp only [Act.put, List.getElem_toArray, List.getElem_cons_zero, List.getElem_cons_succ, List.setIfInBounds_toArray, List.set_cons_zero, List.set_cons_succ]
      refine wpAnyH_take (i := 9) (v := ?_) rfl (by as_aux_lemma => kernel_rfl) (by as_aux_lemma => kernel_rfl) (by as_aux_lemma => kernel_rfl) (fun _ _ _ h => h) (Or.inl ⟨by as_aux_lemma => rfl, ?yt9⟩) (by assumption) ?qt9
      case yt9 => (intro wz hSw; (try dsimp only at hSw); go_simp <;> with_reducible rfl)
      try simp only [Act.put, List.getElem_toArray, List.getElem_cons_zero, List.getElem_cons_succ, List.setIfInBounds_toArray, List.set_cons_zero, List.set_cons_succ]
      refine wpAnyH_ready (rs := [4]) (by as_aux_lemma => kernel_rfl) (by simp) ?_
      refine AllReadyH.cons rfl (fun K hK => ?_) AllReadyH.nil
      go_simp
      refine (IH1.out _ _ JD0.out.bi (JD0.out.nl P0.out)).mono ?_
      rintro e w1 ⟨R1, hR1, hs1⟩
      obtain ⟨rfl, o1, J1⟩ := JD0.out.call hs1
      have HX1 := Lib.hid hR1
      clear hs1 hR1
      obtain ⟨zs1, why1, i1⟩ := R1
      simp only at HX1 J1 ⊢
      refine hK.out _ _ trivial (fun hHeld1 => ?_)
      clear hK K
      try simp only [Act.put, List.getElem_toArray, List.getElem_cons_zero, List.getElem_cons_succ, List.setIfInBounds_toArray, List.set_cons_zero, List.set_cons_succ]
      refine wpAnyH_ready (rs := [10]) (by as_aux_lemma => kernel_rfl) (by simp) ?_
      refine AllReadyH.cons rfl (fun K hK => ?_) AllReadyH.nil
      go_simp
      refine (IH2.out _ _ zs1 why1 J1.out.bi HX1.out.st.1 (J1.out.nl P1.out)).mono ?_
      rintro e w2 ⟨R2, hR2, hs2⟩
      obtain ⟨rfl, o2, J2⟩ := J1.out.call hs2
      have HX2 := Lib.hid hR2
      clear hs2 hR2
      obtain ⟨zs2, why2, i2⟩ := R2
      simp only at HX2 J2 ⊢
      refine hK.out _ _ trivial (fun hHeld2 => ?_)
      clear hK K
      try simp only [Act.put, List.getElem_toArray, List.getElem_cons_zero, List.getElem_cons_succ, List.setIfInBounds_toArray, List.set_cons_zero, List.set_cons_succ]
      refine wpAnyH_take (i := 11) (v := ?_) rfl (by as_aux_lemma => kernel_rfl) (by as_aux_lemma => kernel_rfl) (by as_aux_lemma => kernel_rfl) (fun _ _ _ h => h) (Or.inl ⟨by as_aux_lemma => rfl, ?yt11⟩) (by assumption) ?qt11
      case yt11 => (intro wz hSw; (try dsimp only at hSw); go_simp <;> with_reducible rfl)
      try simp only [Act.put, List.getElem_toArray, List.getElem_cons_zero, List.getElem_cons_succ, List.setIfInBounds_toArray, List.set_cons_zero, List.set_cons_succ]
      refine wpAnyH_take (i := 12) (v := ?_) rfl (by as_aux_lemma => kernel_rfl) (by as_aux_lemma => kernel_rfl) (by as_aux_lemma => kernel_rfl) (fun _ _ _ h => h) (Or.inl ⟨by as_aux_lemma => rfl, ?yt12⟩) (by assumption) ?qt12
      case yt12 => (intro wz hSw; (try dsimp only at hSw); go_simp <;> with_reducible rfl)
      try simp only [Act.put, List.getElem_toArray, List.getElem_cons_zero, List.getElem_cons_succ, List.setIfInBounds_toArray, List.set_cons_zero, List.set_cons_succ]
      refine wpAnyH_done (by as_aux_lemma => kernel_rfl) ?_ _
      have hx2 := HX2.out.st
      have hx1 := HX1.out.st
      have hln := J2.out.bi.2.le
      simp only at hx1 hx2
      have HPut : Hid (∀ (X : World) (o' : Option Nat), EDI X B (.pointer a) o' root had room zs2 why2 → Calls Try.prog 35 #[.pointer (some ⟨B, 0, none⟩), .int .i64 i1, .int .i64 pk, .int .i64 i2] X (EDP B (.pointer a) o' root had room (putM room zs2 why2 ⟨i1, i2, 0, pk, 0, 0⟩).1 (putM room zs2 why2 ⟨i1, i2, 0, pk, 0, 0⟩).2.1 (.int .i64 (putM room zs2 why2 ⟨i1, i2, 0, pk, 0, 0⟩).2.2) X)) := Lib.hid fun X o' hX => eput i1 pk i2 hX (by unfold fitC; simp only; omega) (by have h := HPK.out; unfold Cel.ok; simp only; omega)
      have HC := Lib.hid (all_comb (k := 0) (v := pk) HX1.out HX2.out (by have := HS.out.1; have := HLC.out; omega) (by have := HS.out.2; have := HLC.out; omega) (by simp only; omega))
      generalize putM room zs2 why2 ⟨i1, i2, 0, pk, 0, 0⟩ = q at HC HPut
      obtain ⟨zs3, why3, i3⟩ := q
      simp only at HC HPut
      clear hx1 hx2 hln
      have hgl := hg
      have ck2 := (J2.out.oldcell hg HFg.out (off + m)).trans ck
      clear ck
      go_wp2_with fail
      refine (HPut.out _ _ J2.out.bi).mono ?_
      intro e w3 hs3
      obtain ⟨rfl, o3, J3⟩ := J2.out.call hs3
      clear hs3 ck2
      go_wp2_with fail
      go_ret
      exact ⟨(zs3, why3, i3), by have h := HC.out; rwa [show m + (len - (m + 1)) + 1 = len by have := HLC.out; omega] at h, J3.out.done _⟩
end Go.Proofs.Ytbgepeokadmemaa.F
namespace Go.Proofs.Ytbgepeokadmemaa.F
open Go.ChangeShapes Go.WideShapes Go.ChangeAt Go.RowKit Base
set_option maxRecDepth 100000 in
set_option maxHeartbeats 8000000 in
theorem psof {pv : Value} {o : Option Nat} {room : Nat} {zs : List Cel} {w : World} {l : List Int} {v : Value} (h : ArV w pv o room zs) (hn : NL w v l (VF pv o)) (hl : l.length ≤ 100000) (hok : ∀ x ∈ l, -9223372036854775808 ≤ x ∧ x ≤ 9223372036854775807) :
    Calls Try.prog 27 #[pv, v] w (MP pv o room zs (MoveP zs l.length (mkN l)) (room < zs.length + l.length) w) := by
  obtain ⟨a, rfl⟩ := h.ptr
  obtain ⟨p, c, rfl⟩ : ∃ p c, v = .slice p l.length c := by
    rcases hn with ⟨rfl, p, c, rfl⟩ | ⟨g, off, c, rfl, _⟩
    · exact ⟨p, c, rfl⟩
    · exact ⟨_, c, rfl⟩
  have hb0 : Below w.heap.size w (w.alloc (boxS (.pointer none) 0)) := (Below.refl _ _).alloc (Nat.le_refl _) _
  have HA := Lib.hid h
  have HB0 := Lib.hid hb0
  have HN := Lib.hid (fun (X : World) (hX : Below w.heap.size w X) => psnew (h.below hX))
  have HR := Lib.hid (fun (X : World) (hX : Below w.heap.size w X) => arroom_v (h.below hX))
  have HM := Lib.hid (fun (X : World) (hX : Below w.heap.size w X) => psedit 0 (h.below hX))
  have HNL := Lib.hid hn
  have HOK := Lib.hid hok
  have hle := h.le.1
  have hroom : room ≤ 65536 := by
    rcases h with ⟨_, _, h2, _⟩ | ⟨b, _, h⟩
    · omega
    · have := h.1; omega
  clear h hn hok
  go_enter Try.func27, Try.ntmps27
  go_wp2_with fail
  refine (HN.out _ HB0.out).mono ?_
  rintro e w1 ⟨rfl, hb⟩
  have HX1 : Hid (Below w.heap.size w (w1.alloc (boxS (.pointer a) 0)) ∧ (w1.alloc (boxS (.pointer a) 0)).heap[w.heap.size]? = some (boxS (.pointer none) 0) ∧ (w1.alloc (boxS (.pointer a) 0)).heap[w1.heap.size]? = some (boxS (.pointer a) 0) ∧ w.heap.size < w1.heap.size) := Lib.hid (by
    have h1 : w1.heap[w.heap.size]? = some (boxS (.pointer none) 0) := (hb.block _ (by simp)).trans (heap_alloc_at _ _ _ rfl)
    have h2 := HB0.out.trans (hb.mono HB0.out.size)
    exact ⟨h2.alloc h2.size _, heap_alloc_lt _ _ _ _ h1, heap_alloc_at _ _ _ rfl, heap_lt h1⟩)
  clear hb hb0
  obtain ⟨gx, hgx⟩ : ∃ gx, gx = w1.heap.size := ⟨_, rfl⟩
  go_wp2_with fail
  refine (HR.out _ HX1.out.1).mono ?_
  rintro e w2 ⟨rfl, n2, rfl⟩
  obtain ⟨Y, hY⟩ : ∃ Y, Y = (w1.alloc (boxS (.pointer a) 0)).drewN n2 := ⟨_, rfl⟩
  have HX2 : Hid (Below w.heap.size w Y ∧ Y.heap[w.heap.size]? = some (boxS (.pointer none) 0) ∧ Y.heap[gx]? = some (boxS (.pointer a) 0) ∧ w.heap.size < gx) := Lib.hid (by rw [hY, hgx]; exact ⟨below_drewN HX1.out.1 _, HX1.out.2.1, HX1.out.2.2.1, HX1.out.2.2.2⟩)
  obtain ⟨_, m0, m1⟩ := cellsS HX2.out.2.2.1
  rw [← hY, ← hgx]
  clear hY hgx HX1
  by_cases hf : (room : Int) - (zs.length : Int) < (l.length : Int)
  · go_wp2_with (refine wpList_store_seq rfl (.tmp 4) (.tmp 15) rfl w.heap.size a none 0 0 rfl rfl HX2.out.2.1 ?_; intro w4 hst; have HST := Lib.hid hst; obtain ⟨_, r0, r1⟩ := cellsS hst.2.2.2.2.1; clear hst)
    refine bodyPost_ret (v := .tuple #[.agg #[.pointer a, .int .i64 0], .int .i64 2]) (by simp [results, Try.results27, go_sem, r0, r1]) rfl ?_
    have hbw := HST.out.below HX2.out.1 (Nat.le_refl _)
    exact ⟨0, 2, zs, o, rfl, HA.out.below hbw, Mv.refl _ _, Fr.of_below hbw, .inr ⟨rfl, rfl, rfl, by omega⟩⟩
  · go_wp2_with fail
    refine (HM.out _ HX2.out.1).mono ?_
    rintro e w3 ⟨B, rfl, hB, hBI, hb⟩
    have hbw := HX2.out.1.trans (hb.mono HX2.out.1.size)
    have J0 : Hid (EDS B (.pointer a) 0 (zs.length : Int) room w o w3 o zs 0 [(w.heap.size, boxS (.pointer none) 0), (gx, boxS (.pointer a) 0)]) := Lib.hid (EDS.begin HA.out hbw hBI (fun q hq => by
      have g1 := heap_lt HX2.out.2.1
      have g2 := heap_lt HX2.out.2.2.1
      have g3 := HX2.out.2.2.2
      simp only [List.mem_cons, List.not_mem_nil, or_false] at hq
      rcases hq with rfl | rfl
      · exact ⟨(hb.block _ g1).trans HX2.out.2.1, Nat.le_refl _, by simp only; omega⟩
      · exact ⟨(hb.block _ g2).trans HX2.out.2.2.1, by simp only; omega, by simp only; omega⟩) (by have := HX2.out.2.2.2; simp; omega))
    have HBB : Hid (w.heap.size ≤ B) := Lib.hid (by have := heap_lt HX2.out.2.1; omega)
    have HAL := Lib.hid (eall l.length l _ w3 o zs 0 rfl hl HOK.out hBI (.inl rfl) (HNL.out.keep hbw.size fun g hg hv => ⟨hbw.block g hg, fun k => by
      rcases k with rfl | k
      · have := HBB.out; omega
      · exact hv k⟩))
    clear hB hBI hb hbw m0 m1 HX2 HM HN HR HB0
    go_wp2_with fail
    refine HAL.out.mono ?_
    rintro e w5 ⟨R, hR, hs⟩
    obtain ⟨rfl, o5, J5⟩ := J0.out.call hs
    have HFN := Lib.hid (psfing (P := MoveP zs l.length (mkN l)) (Z := room < zs.length + l.length) HBB.out J5.out (by
      rcases hR with ⟨_, new, he, ⟨h1, h2, h3⟩ | ⟨h1, _, h3, _⟩⟩ | ⟨h0, _⟩
      · exact ⟨⟨new, he⟩, .inl ⟨h1, ⟨new, he, h3⟩, h2⟩⟩
      · exact ⟨⟨new, he⟩, .inr ⟨h1, h3⟩⟩
      · cases h0))
    clear hs hR HAL J0 J5
    go_wp2_with fail
    refine HFN.out.mono ?_
    rintro e w6 ⟨root2, why2, zs2, o2, rfl, HE⟩
    clear HFN
    go_wp2_with (refine wpList_store_seq rfl (.tmp 4) (.tmp 23) rfl w.heap.size a none root2 0 rfl rfl (HE.out.2.2.2.2 (w.heap.size, boxS (.pointer none) 0) (by simp)).1 ?_; intro w7 hst; have HST := Lib.hid hst; obtain ⟨_, r0, r1⟩ := cellsS hst.2.2.2.2.1; clear hst)
    exact bodyPost_ret (v := .tuple #[.agg #[.pointer a, .int .i64 root2], .int .i64 why2]) (by simp [results, Try.results27, go_sem, r0, r1]) rfl (sfin_end HE.out (gr := w.heap.size) (ob := boxS (.pointer none) 0) (by simp) HST.out)
end Go.Proofs.Ytbgepeokadmemaa.F
