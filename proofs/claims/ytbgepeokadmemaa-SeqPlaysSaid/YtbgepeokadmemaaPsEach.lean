/-
  Contract of the sequences' iterator: whatever loop's body keeps its word. Not a statement of the seat.
-/
import Derived.Test.YtbgepeokadmemaaHead5
import Derived.RangeFuncNested
import Derived.RangeFuncBound
import Derived.RangeFuncCalls
import Derived.RangeFuncLeaves
import Derived.Shelf.RegionOpen
import Derived.OwnWalkIn
import Derived.TacticsInMore
import Derived.LoopNIn
import Derived.LoopIn
namespace Go.Proofs.Ytbgepeokadmemaa.F
open Go.ChangeShapes Go.WideShapes Go.ChangeAt Go.RowKit Go.Shelf Base
/-- What is still to come of the cells on the stack. -/
def remS (st : List (Cel × Tre)) : List Int := st.reverse.flatMap fun p => p.1.v :: p.2.vals
theorem remS_snoc (st : List (Cel × Tre)) (p : Cel × Tre) : remS (st ++ [p]) = p.1.v :: (p.2.vals ++ remS st) := by simp [remS]
theorem remS_len (st : List (Cel × Tre)) : st.length ≤ (remS st).length := by
  unfold remS
  rw [← List.length_reverse]
  generalize st.reverse = l
  induction l with
  | nil => simp
  | cons p l ih => simp only [List.flatMap_cons, List.length_append, List.length_cons]; omega
theorem OwnCel.form {B : Nat} {w : World} {v : Value} {zs : List Cel} (h : OwnCel B w v zs) : (zs = [] ∧ v = .slice none 0 0) ∨ ∃ g cap, v = .slice (some ⟨g, 0, none⟩) zs.length cap ∧ B ≤ g ∧ g < w.heap.size ∧ zs.length ≤ cap := by
  rcases h.2 with ⟨hv, h0⟩ | ⟨g, cap, cur, hv, hB, hg, hc, _⟩
  · exact .inl ⟨List.length_eq_zero_iff.1 h0, hv⟩
  · exact .inr ⟨g, cap, hv, hB, heap_lt hg, hc⟩
theorem OwnCel.same {B : Nat} {w w' : World} {v : Value} {zs : List Cel} (h : OwnCel B w v zs) (hb : ∀ g, v.ownBlock = some g → w'.heap[g]? = w.heap[g]?) : OwnCel B w' v zs := by
  obtain ⟨h1, h2⟩ := h
  refine ⟨h1, ?_⟩
  rcases h2 with h2 | ⟨g, cap, cur, hv, hB, hg, h3⟩
  · exact .inl h2
  · exact .inr ⟨g, cap, cur, hv, hB, (hb g (by rw [hv]; rfl)).trans hg, h3⟩
/-- What each holds on its way: the stack, its own box. -/
def EI (pv : Value) (root : Int) (zs : List Cel) (E : Nat) (W : World) (v : Value) (st : List (Cel × Tre)) : Prop :=
  OwnCel E W v (st.map Prod.fst) ∧ W.heap[E]? = some (boxS pv root) ∧ ∀ p ∈ st, Tr zs p.2 p.1.r
theorem EI.below {pv : Value} {root : Int} {zs : List Cel} {E : Nat} {W W' : World} {v : Value} {st : List (Cel × Tre)} (h : EI pv root zs E W v st) (hb : Below W.heap.size W W') : EI pv root zs E W' v st :=
  ⟨h.1.below hb, (hb.block _ (heap_lt h.2.1)).trans h.2.1, h.2.2⟩
theorem EI.push {pv : Value} {root : Int} {zs : List Cel} {E : Nat} {W W' : World} {v v' : Value} {st : List (Cel × Tre)} {p : Cel × Tre} (h : EI pv root zs E W v st) (ho : OwnCel E W' v' (st.map Prod.fst ++ [p.1])) (hg : W.grownBy W' v.ownBlock) (hp : Tr zs p.2 p.1.r) : EI pv root zs E W' v' (st ++ [p]) := by
  refine ⟨by rw [List.map_append]; exact ho, ?_, fun q hq => ?_⟩
  · have hne : v.ownBlock ≠ some E := own_ne h.1 h.2.1 (by decide)
    exact (hg.block E (heap_lt h.2.1) (fun e => hne e.symm)).trans h.2.1
  · rcases List.mem_append.1 hq with hq | hq
    · exact h.2.2 q hq
    · rw [List.mem_singleton] at hq; rw [hq]; exact hp
/-- The stack's own block is each's own, or new since wr. -/
def OB (S : Nat → Prop) (wr : World) (v : Value) : Prop := ∀ g, v.ownBlock = some g → S g ∨ wr.heap.size ≤ g
theorem OB.push {S : Nat → Prop} {wr W : World} {v v' : Value} (h : OB S wr v) (hs : wr.heap.size ≤ W.heap.size) (hv : v'.ownBlock = v.ownBlock ∨ v'.ownBlock = some W.heap.size) : OB S wr v' := fun g hg => by
  rcases hv with e | e
  · exact h g (e ▸ hg)
  · rw [e] at hg; injection hg with hg; exact .inr (by omega)
theorem OB.fr {S : Nat → Prop} {wr W W' : World} {v : Value} (h : OB S wr v) (hf : Fr S wr W) (hg : W.grownBy W' v.ownBlock) : Fr S wr W' :=
  hf.trans (Fr.of_grown (F := fun g => v.ownBlock = some g) hg fun k hk => hk) fun g hl hk => (h g hk).elim id fun e => by omega
theorem EI.pushed {pv : Value} {root : Int} {zs : List Cel} {E : Nat} {S : Nat → Prop} {wA w1 w5 : World} {v v5 : Value} {st : List (Cel × Tre)} {c : Cel} {r2 : Tre} (h1 : EI pv root zs E w1 v st) (h2 : Fr S wA w1) (h3 : OB S wA v) (h5 : OwnCel E w5 v5 (st.map Prod.fst ++ [c])) (hg : ((w1.alloc (boxC c)).alloc (boxC c)).grownBy w5 v.ownBlock) (hat : v5.ownBlock = v.ownBlock ∨ v5.ownBlock = some ((w1.alloc (boxC c)).alloc (boxC c)).heap.size) (hr : Tr zs r2 c.r) :
    Fr S wA w5 ∧ EI pv root zs E w5 v5 (st ++ [(c, r2)]) ∧ OB S wA v5 ∧ w5.heap[w1.heap.size]? = some (boxC c) := by
  have hbb := ((Below.refl w1.heap.size w1).alloc (Nat.le_refl _) (boxC c)).alloc (by simp only [World.size_alloc]; omega) (boxC c)
  have hf := h2.trans (Fr.of_below (F := fun _ => False) hbb) (fun _ _ k => k.elim)
  refine ⟨h3.fr hf hg, (h1.below hbb).push h5 hg hr, h3.push hf.size hat, ?_⟩
  refine (hg.block w1.heap.size (by simp only [World.size_alloc]; omega) (fun e => ?_)).trans (heap_alloc_lt _ _ _ _ (heap_alloc_at _ _ _ rfl))
  have := (h1.1.base _ e.symm).2
  omega
/-- Blocks of S, and those that are new since W. -/
abbrev SN (S : Nat → Prop) (W W' : World) : Nat → Prop := fun g => S g ∨ (W.heap.size ≤ g ∧ g < W'.heap.size)
set_option maxRecDepth 100000 in
set_option maxHeartbeats 16000000 in
theorem each_any {pv : Value} {o : Option Nat} {room : Nat} {zs : List Cel} {w0 : World} {t : Tre} {root : Int} (h : ArV w0 pv o room zs) (ht : Tr zs t root) (hsz : t.size < 65536) (l m : Nat) (J Jx : Nat → World → (Nat → Prop) → Prop)
    (hStep : ∀ k W W' S, J k W S → Fr S W W' → J k W' (SN S W W'))
    (hY : ∀ k W S, k < t.size → J k W S → YieldAt Fence.wide m Try.prog l #[.int .i64 (k : Int), .int .i64 (t.vals.getD k 0)] W fun e W' =>
      (e = .returned (.bool true) ∧ J (k + 1) W' S ∧ Below w0.heap.size W W' ∧ ∀ g, S g → W'.heap[g]? = W.heap[g]?) ∨ (e = .returned (.bool false) ∧ Jx k W' S))
    (W : World) (hW : Below w0.heap.size w0 W) (h0 : J 0 W (fun _ => False)) :
    Calls Try.prog 42 #[.agg #[pv, .int .i64 root], .func (.yield l) #[] #[]] W fun e W' => (∃ v, e = .returned v) ∧ ((∃ S, J t.size W' S) ∨ (∃ k S, k < t.size ∧ Jx k W' S)) := by
  obtain ⟨a, rfl⟩ := h.ptr
  have HA := Lib.hid h
  have HK := Lib.hid h.bk
  have HT := Lib.hid ht
  have HY := Lib.hid hY
  have HST := Lib.hid hStep
  have HSZ := Lib.hid hsz
  have HVL : Hid (t.vals.length = t.size) := Lib.hid t.vals_len
  obtain ⟨E, hE⟩ : ∃ E, E = W.heap.size := ⟨_, rfl⟩
  have HE := Lib.hid hE
  have HWE : Hid (w0.heap.size ≤ E) := Lib.hid (by rw [hE]; exact hW.size)
  have hB0 : Below W.heap.size W (W.alloc (boxS (.pointer a) root)) := (Below.refl _ _).alloc (Nat.le_refl _) _
  have HS0 : Hid (J 0 (W.alloc (boxS (.pointer a) root)) (SN (fun _ => False) W (W.alloc (boxS (.pointer a) root))) ∧ Below w0.heap.size w0 (W.alloc (boxS (.pointer a) root)) ∧ EI (.pointer a) root zs E (W.alloc (boxS (.pointer a) root)) (.slice none 0 0) []) :=
    Lib.hid ⟨hStep _ _ _ _ h0 (Fr.of_below hB0), hW.trans (hB0.mono hW.size), OwnCel.nil _ _, by rw [hE]; exact heap_alloc_at _ _ _ rfl, fun p hp => by cases hp⟩
  clear h hY hStep hsz h0 hW hB0 ht hE
  go_enter Try.func42, Try.ntmps42
  go_wp2_with fail
  rw [← HE.out]
  go_loopw [4, 5, 12] (fun s4 s5 s12 wr => ∃ (k : Nat) (at_ : Int) (v : Value), s12 = .int .i64 (k : Int) ∧ s5 = .int .i64 at_ ∧ v = s4 ∧ k ≤ t.size ∧ Hid (∃ (S : Nat → Prop) (T : Tre) (st : List (Cel × Tre)), J k wr S ∧ Below w0.heap.size w0 wr ∧ (∀ g, S g → E ≤ g ∧ g < wr.heap.size) ∧ S E ∧ EI (.pointer a) root zs E wr v st ∧ (∀ g, v.ownBlock = some g → S g) ∧ Tr zs T at_ ∧ T.vals ++ remS st = t.vals.drop k)) (fun _ _ s12 _ => t.size + 1 - (intOf s12).toNat)
  case atStart => exact ⟨0, root, _, rfl, rfl, rfl, Nat.zero_le _, Lib.hid ⟨_, t, [], HS0.out.1, HS0.out.2.1, fun g hg => by
    have := HE.out
    rcases hg with hg | ⟨h1, h2⟩
    · exact hg.elim
    · simp only [World.size_alloc] at h2 ⊢; omega, .inr ⟨by have := HE.out; omega, by have := HE.out; simp only [World.size_alloc]; omega⟩, HS0.out.2.2, (fun g hg => by cases hg), HT.out, by simp [remS]⟩⟩
  case round =>
    obtain ⟨k, at_, v, rfl, rfl, hv, hk, HR⟩ := hrel
    subst hv
    obtain ⟨S, T, st, hJ, hB, hS, hSE, hEI, hOS, hT, hrem⟩ := HR.out
    have HJ := Lib.hid hJ
    have HB := Lib.hid hB
    have HS := Lib.hid hS
    have HSE := Lib.hid hSE
    have hkb : (k : Int) < 65536 := by have := HSZ.out; omega
    obtain ⟨wA, hwA⟩ : ∃ wA, wA = wr := ⟨_, rfl⟩
    subst hwA
    have HI : Hid (Fr S wA wA ∧ EI (.pointer a) root zs E wA v st ∧ OB S wA v ∧ Tr zs T at_ ∧ T.vals ++ remS st = t.vals.drop k) := Lib.hid ⟨Fr.refl _ _, hEI, fun g hg => .inl (hOS g hg), hT, hrem⟩
    have HAT : Hid (0 ≤ at_) := Lib.hid hT.le.1
    clear hJ hB hS hSE hEI hOS hT hrem HR
    go_wp2_with fail
    go_loopw [4, 5] (fun s4 s5 wi => ∃ (at_ : Int) (v : Value) (T : Tre) (st : List (Cel × Tre)), s5 = .int .i64 at_ ∧ v = s4 ∧ 0 ≤ at_ ∧ Hid (Fr S wA wi ∧ EI (.pointer a) root zs E wi v st ∧ OB S wA v ∧ Tr zs T at_ ∧ T.vals ++ remS st = t.vals.drop k)) (fun _ s5 _ => (intOf s5).toNat)
    case atStart => exact ⟨at_, v, T, st, rfl, rfl, HAT.out, HI⟩
    case round =>
      clear HI HAT
      obtain ⟨at2, v2, T2, st2, rfl, hv2, hat2, HI⟩ := hrel
      subst hv2
      obtain ⟨wi, hwi⟩ : ∃ wi, wi = wr := ⟨_, rfl⟩
      subst hwi
      obtain ⟨hFr, hEI, hOB, hT, hrem⟩ := id HI.out
      have hBi : Below w0.heap.size w0 wi := HB.out.trans (hFr.below (fun g hg => by have := (HS.out g hg).1; have := HWE.out; omega) HB.out.size)
      have HBi := Lib.hid hBi
      have hbx := hEI.2.1
      cases T2 with
      | nil =>
        have h0 : at2 = 0 := hT
        subst h0
        rcases List.eq_nil_or_concat st2 with rfl | ⟨st1, p, hst⟩
        · obtain ⟨pp, cc, hv3⟩ : ∃ p c, v2 = .slice p 0 c := by
            rcases hEI.1.form with ⟨_, hv⟩ | ⟨g, cap, hv, _⟩
            · exact ⟨_, _, hv⟩
            · exact ⟨_, _, hv⟩
          subst hv3
          have hkt : k = t.size := by
            have := congrArg List.length hrem
            simp [remS, Tre.vals] at this
            have := HVL.out
            omega
          have HF := Lib.hid (HST.out k wA wi S HJ.out hFr)
          rw [hkt] at HF
          clear hFr hEI hOB hT hrem hBi hbx
          go_wp2_with fail
          exact bodyPost_ret (v := .tuple #[]) (results_none rfl _ _ _) rfl ⟨⟨_, rfl⟩, .inl ⟨_, HF.out⟩⟩
        · rw [List.concat_eq_append] at hst
          subst hst
          obtain ⟨⟨ia, ib, kk, vv, cs, ch⟩, r1⟩ := p
          have hTr : Tr zs r1 ib := hEI.2.2 ((⟨ia, ib, kk, vv, cs, ch⟩ : Cel), r1) (List.mem_append_right _ (List.mem_singleton.2 rfl))
          have hrem2 : vv :: (r1.vals ++ remS st1) = t.vals.drop k := by
            have h := hrem
            rw [remS_snoc] at h
            exact h
          have hkt : k < t.size := by
            have := congrArg List.length hrem2
            simp only [List.length_cons, List.length_drop] at this
            have := HVL.out
            omega
          have hval : t.vals.getD k 0 = vv := by
            have h1 : k < t.vals.length := by have := HVL.out; omega
            rw [List.drop_eq_getElem_cons h1] at hrem2
            rw [List.getD_eq_getElem?_getD, List.getElem?_eq_getElem h1]
            exact (List.cons.inj hrem2).1.symm
          have hrem3 : r1.vals ++ remS st1 = t.vals.drop (k + 1) := by
            have h1 : k < t.vals.length := by have := HVL.out; omega
            rw [List.drop_eq_getElem_cons h1] at hrem2
            exact (List.cons.inj hrem2).2
          have hml : ((st1 ++ [((⟨ia, ib, kk, vv, cs, ch⟩ : Cel), r1)]).map Prod.fst).length = st1.length + 1 := by simp
          have hsl : st1.length + 1 ≤ 65536 := by
            have h1 := remS_len (st1 ++ [((⟨ia, ib, kk, vv, cs, ch⟩ : Cel), r1)])
            have h2 := congrArg List.length hrem
            simp only [List.length_append, List.length_cons, List.length_nil, List.length_drop, Tre.vals] at h1 h2
            have := HVL.out
            have := HSZ.out
            omega
          rcases hEI.1.form with ⟨hnil, _⟩ | ⟨g, cap, hv3, hEg, hgl, hcap⟩
          · simp at hnil
          rw [hml] at hv3 hcap
          subst hv3
          obtain ⟨p9, c9, hvv, hx3, hcell⟩ := (hEI.1.list (by rw [hml]; omega)).open_
          have hpe : p9 = some ⟨g, 0, none⟩ := by injection hvv with e; exact e.symm
          subst hpe
          clear hx3
          obtain ⟨g', o', hp', hx1, hx2, c0, c1, c2, c3, c4, c5⟩ := hcell st1.length (by rw [hml]; omega)
          have hgo : g' = g ∧ o' = 0 := by injection hp' with e; injection e with e1 e2; exact ⟨e1.symm, e2.symm⟩
          obtain ⟨hgg, hoo⟩ := hgo
          rw [hgg, hoo] at c0 c1 c2 c3 c4 c5
          clear hp' hvv hcell hx1 hx2 hgg hoo g' o'
          have hget : ((st1 ++ [((⟨ia, ib, kk, vv, cs, ch⟩ : Cel), r1)]).map Prod.fst).getD st1.length Cel.zero = ⟨ia, ib, kk, vv, cs, ch⟩ := by
            rw [List.map_append, List.getD_eq_getElem?_getD, List.getElem?_append_right (by simp)]
            simp
          rw [hget] at c0 c1 c2 c3 c4 c5
          simp only [Nat.zero_add] at c0 c1 c2 c3 c4 c5
          have HOC := Lib.hid (OwnCel.cut hEI.1 (m := st1.length) (by rw [hml]; omega))
          obtain ⟨N1, hN1⟩ : ∃ N1, N1 = st1.length + 1 := ⟨_, rfl⟩
          have hz : ((N1 : Int) == 0) = false := by rw [beq_eq_false_iff_ne]; omega
          have hw : IntKind.i64.wrap ((N1 : Int) - 1) = (st1.length : Int) := by rw [IntKind.wrap_i64]; omega
          have hlt : (st1.length : Int) < (N1 : Int) := by omega
          have hN2 : (N1 : Int) ≤ 65536 := by omega
          have HX : Hid (Fr S wA (wi.alloc (boxC ⟨ia, ib, kk, vv, cs, ch⟩)) ∧ EI (.pointer a) root zs E (wi.alloc (boxC ⟨ia, ib, kk, vv, cs, ch⟩)) (.slice (some ⟨g, 0, none⟩) st1.length cap) st1 ∧ g < wi.heap.size ∧ Below w0.heap.size w0 (wi.alloc (boxC ⟨ia, ib, kk, vv, cs, ch⟩))) := Lib.hid (by
            have hb1 : Below wi.heap.size wi (wi.alloc (boxC ⟨ia, ib, kk, vv, cs, ch⟩)) := (Below.refl _ _).alloc (Nat.le_refl _) _
            have ho := HOC.out
            rw [List.map_append, List.take_left' (by simp)] at ho
            exact ⟨hFr.alloc _, EI.below ⟨ho, hEI.2.1, fun q hq => hEI.2.2 q (List.mem_append_left _ hq)⟩ hb1, hgl, hBi.trans (hb1.mono hBi.size)⟩)
          have HJX := Lib.hid (HST.out k wA _ S HJ.out HX.out.1)
          have HGS : Hid (S g ∨ wA.heap.size ≤ g) := Lib.hid (hOB g rfl)
          have HTR := Lib.hid hTr
          have HREM := Lib.hid hrem3
          have HKT := Lib.hid hkt
          have HYk := Lib.hid (HY.out k _ _ hkt HJX.out)
          rw [hval] at HYk
          have hwl : wA.heap.size ≤ wi.heap.size := hFr.size
          rw [← hN1] at hcap ⊢
          have hlen0 : (st1.length : Int) ≤ 65536 := by omega
          have HN1 := Lib.hid hN1
          generalize st1.length = n1 at c0 c1 c2 c3 c4 c5 hw hlt hlen0 HX HN1 ⊢
          clear hrem hrem2 hrem3 hTr hkt hval hml hsl hget HOC hEI hN1 hOB hFr hT hBi hlen0 hEg
          go_upto_region 13 with fail
          obtain ⟨X, hX⟩ : ∃ X, X = wi.alloc (boxC ⟨ia, ib, kk, vv, cs, ch⟩) := ⟨_, rfl⟩
          have HXB : Hid (X.heap[wi.heap.size]? = some (boxC ⟨ia, ib, kk, vv, cs, ch⟩) ∧ wA.heap.size ≤ wi.heap.size) := Lib.hid ⟨by rw [hX]; exact heap_alloc_at _ _ _ rfl, hwl⟩
          rw [← hX] at HX HJX HYk
          unfold boxC at hX
          dsimp only at hX
          rw [← hX]
          obtain ⟨gb, hgb⟩ : ∃ gb, gb = wi.heap.size := ⟨_, rfl⟩
          rw [← hgb] at HXB HX ⊢
          clear hX hgb c0 c1 c2 c3 c4 c5 hbx hgl
          obtain ⟨_, d0, d1, d2, d3, d4, d5⟩ := cellsC HXB.out.1
          obtain ⟨fn, tmps, assign, body, hy, hR⟩ := HYk.out
          refine wpIn_wide (n := m + 1).1 ?_
          gi_wp2
          refine hR.mono ?_
          rintro e W3 (⟨rfl, hJ3, hB3, hK3⟩ | ⟨rfl, hJx3⟩)
          · have H3 : Hid (J (k + 1) W3 (SN S wA X) ∧ Below w0.heap.size w0 W3 ∧ (∀ g', SN S wA X g' → W3.heap[g']? = X.heap[g']?) ∧ X.heap.size ≤ W3.heap.size) := Lib.hid ⟨hJ3, HX.out.2.2.2.trans hB3, hK3, hB3.size⟩
            have HGB : Hid (W3.heap[gb]? = some (boxC ⟨ia, ib, kk, vv, cs, ch⟩)) := Lib.hid ((hK3 gb (.inr ⟨HXB.out.2, heap_lt HXB.out.1⟩)).trans HXB.out.1)
            clear d0 d1 d2 d3 d4 d5 hy hR hJ3 hB3 hK3
            obtain ⟨_, d0, d1, d2, d3, d4, d5⟩ := cellsC HGB.out
            gi_wp2
            go_upto_region 14 with fail
            have HXS : Hid (g < X.heap.size ∧ st1.length = st1.length) := Lib.hid ⟨by have := HX.out.2.2.1; have := (heap_lt HXB.out.1); omega, rfl⟩
            have HN : Hid (∃ (S : Nat → Prop) (T : Tre) (st : List (Cel × Tre)), J (k + 1) W3.drew S ∧ Below w0.heap.size w0 W3.drew ∧ (∀ g, S g → E ≤ g ∧ g < W3.drew.heap.size) ∧ S E ∧ EI (.pointer a) root zs E W3.drew (.slice (some ⟨g, 0, none⟩) n1 cap) st ∧ (∀ g', (Value.slice (some ⟨g, 0, none⟩) n1 cap).ownBlock = some g' → S g') ∧ Tr zs T ib ∧ T.vals ++ remS st = t.vals.drop (k + 1)) := Lib.hid (by
              obtain ⟨q1, q2, q3, q4⟩ := H3.out
              have hgs : SN S wA X g := by
                rcases HGS.out with h | h
                · exact .inl h
                · exact .inr ⟨h, HXS.out.1⟩
              have hd : Below W3.heap.size W3 W3.drew := (Below.refl _ _).drew
              have hei := HX.out.2.1
              refine ⟨SN (SN S wA X) W3 W3.drew, r1, st1, HST.out _ _ _ _ q1 (Fr.of_below hd), q2.drew, fun g' hg' => ?_, .inl (.inl HSE.out), EI.below ⟨hei.1.same fun g' hg' => q3 g' (by injection hg' with e; exact e ▸ hgs), (q3 E (.inl HSE.out)).trans hei.2.1, hei.2.2⟩ hd, fun g' hg' => .inl (by injection hg' with e; exact e ▸ hgs), HTR.out, HREM.out⟩
              have he := HS.out E HSE.out
              rcases hg' with (h | h) | h
              · exact ⟨(HS.out g' h).1, Nat.lt_of_lt_of_le (HS.out g' h).2 (Nat.le_trans HX.out.1.size q4)⟩
              · exact ⟨by omega, Nat.lt_of_lt_of_le h.2 q4⟩
              · exact ⟨by have := HX.out.1.size; omega, h.2⟩)
            go_region
            go_wp2_with fail
            go_roundw
            case rel => exact ⟨k + 1, ib, _, by go_num, rfl, rfl, HKT.out, HN⟩
            case measure => simp [intOf]; have := HKT.out; omega
          · have HJX3 := Lib.hid hJx3
            clear d0 d1 d2 d3 d4 d5 hy hR hJx3
            gi_wp2
            go_wp2_with fail
            exact bodyPost_ret (v := .tuple #[]) (results_none rfl _ _ _) rfl ⟨⟨_, rfl⟩, .inr ⟨k, _, HKT.out, HJX3.out⟩⟩
      | node l2 k2 x2 r2 =>
        obtain ⟨hi, ia, ib, hcel, hl, hr⟩ := hT
        have hdn := Tr.down HK.out hi hcel
        have hHC := pscell root at2 (HA.out.below hBi)
        rw [hcel] at hHC
        have HC := Lib.hid hHC
        have hia := hl.le.1
        have hnn : (at2 != 0) = true := by rw [bne_iff_ne]; omega
        have hsl : st2.length ≤ 65536 := by
          have h1 := remS_len st2
          have h2 := congrArg List.length hrem
          simp only [List.length_append, List.length_drop] at h2
          have := HVL.out
          have := HSZ.out
          omega
        have HRM : Hid (l2.vals ++ remS (st2 ++ [((⟨ia, ib, k2, x2, ((Tre.node l2 k2 x2 r2).size : Int), ((Tre.node l2 k2 x2 r2).high : Int)⟩ : Cel), r2)]) = t.vals.drop k) := Lib.hid (by
          rw [remS_snoc, ← hrem]
          simp [Tre.vals])
        generalize ((Tre.node l2 k2 x2 r2).size : Int) = cs at HC HRM
        generalize ((Tre.node l2 k2 x2 r2).high : Int) = ch at HC HRM
        have HL := Lib.hid hl
        have HRR := Lib.hid hr
        have HE2 := Lib.hid (And.intro hFr (And.intro hEI (And.intro hOB hsl)))
        obtain ⟨_, m0, m1⟩ := cellsS hbx
        obtain ⟨n2, hn2⟩ : ∃ n2, n2 = st2.length := ⟨_, rfl⟩
        obtain ⟨p2, c2, hv2⟩ : ∃ p c, v2 = .slice p n2 c := by
          rcases hEI.1.form with ⟨hz, hv⟩ | ⟨g, cap, hv, _⟩
          · have : st2.length = 0 := by simpa using hz
            exact ⟨none, 0, by rw [hv, hn2, this]⟩
          · exact ⟨some ⟨g, 0, none⟩, cap, by rw [hv, hn2, List.length_map]⟩
        subst hv2
        clear hcel hl hr hHC hBi hEI hOB hFr hrem hbx hsl hn2
        go_wp2_with fail
        refine HC.out.mono ?_
        rintro e w1 ⟨rfl, hb⟩
        have HW1 : Hid (EI (.pointer a) root zs E w1 (.slice p2 n2 c2) st2 ∧ Fr S wA w1 ∧ OB S wA (.slice p2 n2 c2) ∧ st2.length ≤ 65536) := Lib.hid ⟨HE2.out.2.1.below hb, HE2.out.1.trans (Fr.of_below (F := fun _ => False) hb) (fun _ _ k => k.elim), HE2.out.2.2.1, HE2.out.2.2.2⟩
        have HOW : Hid (∀ o o', OwnCel E ((w1.alloc o).alloc o') (.slice p2 n2 c2) (st2.map Prod.fst)) := Lib.hid fun o o' => HW1.out.1.1.below (((Below.refl _ _).alloc (Nat.le_refl _) _).alloc (by simp only [World.size_alloc]; omega) _)
        have HEL : Hid (E ≤ w1.heap.size ∧ (st2.map Prod.fst).length ≤ 65536) := Lib.hid ⟨Nat.le_of_lt (heap_lt HW1.out.1.2.1), by rw [List.length_map]; exact HW1.out.2.2.2⟩
        clear hb HC m0 m1 HI HE2 hnn hi
        go_wp2_with (at_builtin; refine append_cels rfl (.tmp 20) (.tmp 22) rfl (by have := HEL.out.1; simp only [World.size_alloc]; omega) (HOW.out _ _) rfl (cel_at ⟨ia, ib, k2, x2, cs, ch⟩ (heap_alloc_at _ _ _ (by simp))) rfl (by have := HEL.out.2; simp only [List.length_cons, List.length_nil]; omega) ?_; intro v5 w5 h5 hg5 hat5; have HN5 := Lib.hid (EI.pushed (c := ⟨ia, ib, k2, x2, cs, ch⟩) HW1.out.1 HW1.out.2.1 HW1.out.2.2.1 h5 hg5 hat5 HRR.out); obtain ⟨_, d0, d1, d2, d3, d4, d5⟩ := cellsC HN5.out.2.2.2; clear h5 hg5 hat5)
        go_roundw
        case rel => exact ⟨ia, v5, l2, _, rfl, rfl, hia, Lib.hid ⟨HN5.out.1, HN5.out.2.1, HN5.out.2.2.1, HL.out, HRM.out⟩⟩
        case measure => simp [intOf]; omega
end Go.Proofs.Ytbgepeokadmemaa.F
