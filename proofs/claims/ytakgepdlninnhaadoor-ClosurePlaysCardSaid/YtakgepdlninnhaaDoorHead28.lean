/-
  Contracts of small functions, several texts laid into one. Not a statement of the seat.
-/
import Derived.Test.YtakgepdlninnhaaDoorHead20
import Derived.RangeFuncGives
import Derived.RangeFuncNested
import Derived.RangeFuncBound
import Derived.RangeFuncCalls
import Derived.RangeFuncLeaves
import Derived.Shelf.RegionOpen
import Derived.OwnWalkIn
import Derived.TacticsInMore
import Derived.LoopNIn
import Derived.LoopIn
import Derived.Deep.RegionHeld3
import Derived.Deep.DeepCutAuto
namespace Go.Proofs.YtakgepdlninnhaaDoor.Cs
open Go.ChangeShapes Go.WideShapes Go.ChangeAt Go.RowKit Go.Shelf Base F Bits Df Cl
attribute [local go_sem] Oper.semAt_some
/-- What the iterator reads. -/
def BwK (cb : Nat) (p : Option Addr) (c : Nat) (os : List Nat) (W : World) : Prop :=
  W.cell? ⟨cb, 0, none⟩ = some (.slice p os.length c) ∧ ∀ i, i < os.length → ∃ g o, p = some ⟨g, o, none⟩ ∧ W.cell? ⟨g, o + i, none⟩ = some (.int .i64 ((os.getD i 0 : Nat) : Int))
set_option maxRecDepth 100000 in
set_option maxHeartbeats 8000000 in
theorem backIt_any {cb c : Nat} {p : Option Addr} {os : List Nat} (hl : os.length ≤ 4096) (W : World) (l m : Nat) (J : Nat → World → Prop) (hK : ∀ k W', J k W' → BwK cb p c os W')
    (hY : ∀ k i x W1, k + i + 1 = os.length → os.getD i 0 = x → J k W1 → YieldAt Fence.wide m Tryd.prog l #[.int .i64 (i : Int), .int .i64 ((x : Nat) : Int)] W1 fun e W' => e = .returned (.bool true) ∧ J (k + 1) W')
    (h0 : J 0 W) : Calls Tryd.prog 72 #[.func (.yield l) #[] #[], .pointer (some ⟨cb, 0, none⟩)] W fun e W' => (∃ v, e = .returned v) ∧ J os.length W' := by
  have HK : Hid (∀ k W', J k W' → W'.cell? ⟨cb, 0, none⟩ = some (.slice p os.length c) ∧ ∀ i, i < os.length → ∃ g o, p = some ⟨g, o, none⟩ ∧ W'.cell? ⟨g, o + i, none⟩ = some (.int .i64 ((os.getD i 0 : Nat) : Int))) := Lib.hid hK
  have HY := Lib.hid hY
  have H0 := Lib.hid h0
  obtain ⟨c0, _⟩ := hK _ _ h0
  obtain ⟨N, hN⟩ : ∃ N, N = os.length := ⟨_, rfl⟩
  rw [← hN] at HK HY hl c0 ⊢
  have hli : (N : Int) ≤ 4096 := by omega
  clear hK hY h0 hN
  go_enter Tryd.func72, Tryd.ntmps72
  go_wp2_with fail
  clear c0
  go_loopw [3] (fun s3 wr => ∃ k : Nat, s3 = .int .i64 ((N : Int) - 1 - (k : Int)) ∧ k ≤ N ∧ Hid (J k wr)) (fun s3 _ => (intOf s3 + 1).toNat)
  case atStart => exact ⟨0, by go_num, Nat.zero_le _, H0⟩
  case round =>
    clear H0
    obtain ⟨k, hs, hk, HJ⟩ := hrel
    by_cases hlt : k < N
    · obtain ⟨i, hi⟩ : ∃ i, i = N - 1 - k := ⟨_, rfl⟩
      have hiv : (N : Int) - 1 - (k : Int) = (i : Int) := by omega
      rw [hiv] at hs
      subst hs
      obtain ⟨c0, hc⟩ := HK.out _ _ HJ.out
      have hiN : i < N := by omega
      obtain ⟨g, o, hp, c1⟩ := hc i hiN
      have HYk := Lib.hid (HY.out k i (os.getD i 0) wr (by omega) rfl HJ.out)
      have hii : (i : Int) < (N : Int) := by omega
      have HB : Hid (k + i + 1 = N) := Lib.hid (by omega)
      generalize os.getD i 0 = x at c1 HYk
      subst hp
      clear hc hi hiv HJ hk hlt
      go_upto_region 3 with fail
      obtain ⟨fn, tmps, assign, body, hy, hR⟩ := HYk.out
      clear HYk
      refine wpIn_wide (n := m + 1).1 ?_
      gi_wp2
      refine hR.mono ?_
      rintro e W3 ⟨rfl, hJ3⟩
      have HN4 := Lib.hid hJ3
      clear hy hR hJ3 c0 c1
      gi_wp2
      go_wp2_with fail
      go_roundw
      case rel => exact ⟨k + 1, by have := HB.out; go_num, by have := HB.out; omega, HN4⟩
      case measure => have := HB.out; simp [intOf] <;> omega
    · have hke : k = N := by omega
      subst hke
      have hm1 : (k : Int) - 1 - (k : Int) = -1 := by omega
      rw [hm1] at hs
      subst hs
      clear hlt hk hm1
      go_wp2_with fail
      exact bodyPost_end (v := .tuple #[]) (results_none rfl _ _ _) rfl ⟨⟨_, rfl⟩, HJ.out⟩
theorem backward_fn {p : Option Addr} {len c : Nat} (w : World) : Calls Tryd.prog 65 #[.slice p len c] w fun e w' => e = .returned (.func (.func 72) #[] #[.pointer (some ⟨w.heap.size, 0, none⟩)]) ∧ w' = w.alloc (.cells #[.slice p len c] 30) := by
  go_enter Tryd.func65, Tryd.ntmps65
  go_wp2
  go_ret
  exact ⟨rfl, rfl⟩
/-- What a round keeps: what is no cells. -/
def RKb (W W' : World) : Prop := W.heap.size ≤ W'.heap.size ∧ ∀ (g : Nat) (o : Obj), W.heap[g]? = some o → o.isCells = false → W'.heap[g]? = some o
def RPb (I : Nat → World → Prop) (k : Nat) (W : World) : Exit → Act → World → Prop
  | .normal, _, W' => RKb W W' ∧ I (k + 1) W'
  | _, _, _ => False
theorem range_back {cb c : Nat} {pp : Option Addr} {os : List Nat} (hl : os.length ≤ 4096) {g : Operand} {ps : Array Tmp} {assign body : Code} {Q : Exit → Act → World → Prop} {a : Act} {w : World} {n0 m : Nat} (hps : ps.size = 2)
    (hg : a.eval g = .func (.func 72) #[] #[.pointer (some ⟨cb, 0, none⟩)])
    (I : Nat → World → Prop) (hK : ∀ k W', I k W' → BwK cb pp c os W') (hI : ∀ k W W', I k W → Below W.heap.size W W' → I k W')
    (hP : ∀ k W l (o : Obj) o', I k W → W.heap[l]? = some o → o.isCells = false → w.heap.size ≤ l → I k (W.putObj l o'))
    (h0 : I 0 w) (a₁ : Nat → Nat → Act)
    (hassign : ∀ (l i x : Nat) (W : World) (K : Act → World → Prop), K (a₁ i x) W →
      assign.wpIn (Fence.wide.inRound l) m Tryd.prog (Exit.then K (fun _ _ _ => False)) { tmps := (ps.zip #[.int .i64 (i : Int), .int .i64 (x : Int)]).foldl (fun t (p, v) => t.setIfInBounds p v) a.tmps, defers := [] } W)
    (hbody : ∀ (l k i x : Nat) (W : World), k + i + 1 = os.length → os.getD i 0 = x → I k W → body.wpIn (Fence.wide.inRound l) m Tryd.prog (RPb I k W) (a₁ i x) W)
    (hdone : ∀ (D : Nat) (W : World), w.heap.size ≤ D → I os.length W → W.heap[D]? = some (.deferred (some [])) → Q .normal { a with defers := { target := .collected D, args := #[] } :: a.defers } W) :
    (Code.rangeFunc g ps assign body).wpIn Fence.wide n0 Tryd.prog Q a w := by
  have eg : ∀ args w, (callFunc 72 args).run Tryd.prog w = .ok (.enter 72 args) w := enters_of Tryd.func72 (by kernel_rfl) rfl
  refine wpIn_rangeFunc ?_
  intro fn hfn
  obtain ⟨rc, hrc⟩ : ∃ rc : LoopState → Option Code → Loop, rc = fun st pe => { state := st, pending := pe, fn, tmps := a.tmps, params := ps, assign, body, defers := w.heap.size } := ⟨_, rfl⟩
  obtain ⟨W1, hW1⟩ : ∃ W1, (w.alloc (.deferred (some []))).alloc (.loop (rc .ready none)) = W1 := ⟨_, rfl⟩
  have hL1 : W1.heap[w.heap.size + 1]? = some (.loop (rc .ready none)) := by rw [← hW1]; exact heap_alloc_at _ _ _ (by simp)
  have hD1 : W1.heap[w.heap.size]? = some (.deferred (some [])) := by rw [← hW1]; exact heap_alloc_lt _ _ _ _ (heap_alloc_at _ _ _ rfl)
  have hbw : Below w.heap.size w W1 := by rw [← hW1]; exact ((Below.refl _ w).alloc (Nat.le_refl _) _).alloc (by simp) _
  have hI1 : I 0 W1 := hI _ _ _ h0 hbw
  refine ⟨w.heap.size + 1, [{ target := .collected w.heap.size, args := #[] }], W1, { target := .fn (.func 72) #[.pointer (some ⟨cb, 0, none⟩)], args := #[.func (.yield (w.heap.size + 1)) #[] #[]] }, W1, 72, #[.func (.yield (w.heap.size + 1)) #[] #[], .pointer (some ⟨cb, 0, none⟩)], W1, ?_, ?_, ?_, ?_, ?_, ?_⟩
  · rw [← hW1, hrc]; exact run_enterLoop_outer _ _ _ _ _
  · simp only [resolve, hg]
    simp [go_sem]
  · intro f' _; trivial
  · simp [invoke, go_sem, eg]
  · intro h; cases h
  · refine callsIn_wide.2 ((backIt_any hl W1 (w.heap.size + 1) m (fun k W => I k W ∧ W.heap[w.heap.size + 1]? = some (.loop (rc .ready none)) ∧ W.heap[w.heap.size]? = some (.deferred (some []))) (fun k W' h => hK k W' h.1) ?yield ⟨hI1, hL1, hD1⟩).mono ?_)
    case yield =>
      rintro k i x W hki hx ⟨h1, h2, h3⟩
      have hy := run_yield (P := Tryd.prog) (args := #[.int .i64 (i : Int), .int .i64 (x : Int)]) h2 (by rw [hrc]; exact hps.symm)
      rw [hrc] at hy
      refine ⟨fn, _, assign, body, hy, roundIn_of_wpIn hfn (hassign _ i x W _ ⟨_, run_beginRound h2 (by rw [hrc]), ?_⟩)⟩
      obtain ⟨W3, hW3⟩ : ∃ W3, W3 = W.putObj (w.heap.size + 1) (.loop { rc .ready none with state := .busy }) := ⟨_, rfl⟩
      have l3 : W3.heap[w.heap.size + 1]? = some (.loop { rc .ready none with state := .busy }) := by rw [hW3]; exact World.putObj_heap_same (heap_lt h2)
      have d3 : W3.heap[w.heap.size]? = some (.deferred (some [])) := by rw [hW3]; exact (World.putObj_heap_other (by omega)).trans h3
      have i3 : I k W3 := by rw [hW3]; exact hP _ _ _ _ _ h1 h2 rfl (by omega)
      rw [← hW3]
      refine wpIn_mono (hbody _ k i x W3 hki hx i3) ?_
      rintro e a3 W4 hp
      cases e with
      | normal =>
        obtain ⟨⟨s4, k4⟩, i4⟩ := hp
        have l4 := k4 _ (.loop { rc .ready none with state := .busy }) l3 rfl
        have d4 := k4 _ (.deferred (some [])) d3 rfl
        have hr := run_endRound (P := Tryd.prog) none l4
        obtain ⟨W5, hW5⟩ : ∃ W5, W5 = W4.putObj (w.heap.size + 1) (.loop (rc .ready none)) := ⟨_, rfl⟩
        refine ⟨.bool true, W5, ?_, rfl, ?_, ?_, ?_⟩
        · rw [hrc] at hr
          rw [hW5, hrc]
          exact hr
        · rw [hW5]
          exact hP _ _ _ _ _ i4 l4 rfl (by omega)
        · rw [hW5]
          exact World.putObj_heap_same (heap_lt l4)
        · rw [hW5]
          exact (World.putObj_heap_other (by omega)).trans d4
      | ret => exact hp.elim
      | exit id => exact hp.elim
      | goto t => exact hp.elim
      | panic ch => exact hp.elim
      | outgrown => exact hp.elim
    rintro e W2 ⟨⟨v, rfl⟩, hi, hl', hd⟩
    refine ⟨none, _, by have := run_endLoop (P := Tryd.prog) hl' (by rw [hrc]; simp); rw [hrc] at this; exact this, ?_⟩
    exact hdone _ _ (Nat.le_refl _) (hP _ _ _ _ _ hi hl' rfl (by omega)) ((World.putObj_heap_other (by omega)).trans hd)
end Go.Proofs.YtakgepdlninnhaaDoor.Cs
namespace Go.Proofs.YtakgepdlninnhaaDoor.Cs
open Go.ChangeShapes Go.WideShapes Go.ChangeAt Go.RowKit Go.Shelf Base F Bits Df Cl
variable {B n m lb lg LV S b1 l1 b2 l2 : Nat} {k : CB} {w W W' wE : World} {f : Int × Int → Int} {V : Nat → Nat → Nat} {la : La} {E : Nat → Nat → Prop} {u v : Nat}
/-- What is no cells, and is not the counts' map, is changed. -/
theorem CS.put (h : CS B k n W f V la m) {l : Nat} {o o' : Obj} (hl : W.heap[l]? = some o) (hc : o.isCells = false) (hne : l ≠ k.mb) : CS B k n (W.putObj l o') f V la m := by
  have key : ∀ {g : Nat} {cs : Array Value} {T : TypeId}, W.heap[g]? = some (Obj.cells cs T (0, 0)) → (W.putObj l o').heap[g]? = W.heap[g]? := fun {g cs T} hg => World.putObj_heap_other (fun e => by
    rw [e, hl] at hg
    injection hg with hg
    rw [hg] at hc
    cases hc)
  obtain ⟨es, clock, hm⟩ := h.mp
  have hmb : (W.putObj l o').heap[k.mb]? = W.heap[k.mb]? := World.putObj_heap_other (fun e => hne e.symm)
  have hsz : (W.putObj l o').heap.size = W.heap.size := by simp
  refine ⟨(key (cs := _) (T := 56) h.head).trans h.head, h.map.heap hmb, fun a ha i hi => ?_, fun a ha i hi => ?_, h.inj, fun x hx => ?_, h.ge, h.hn, by rw [hsz]; exact h.size, ⟨es, clock, hmb.trans hm⟩⟩
  · obtain ⟨g, cur, h1, h2, h3⟩ := h.sl a ha i hi
    exact ⟨g, cur, h1, (key h2).trans h2, h3⟩
  · have := h.row a ha i hi
    exact this.keep (key this.1) (key this.2.1)
  · obtain ⟨h1, h2, h3⟩ := h.lst x hx
    exact ⟨h1.keep (key h1.1) (key h1.2.1), h2, h3⟩
theorem row_put {b g X l : Nat} {o o' : Obj} (h : RowAt W b g n X) (hl : W.heap[l]? = some o) (hc : o.isCells = false) : RowAt (W.putObj l o') b g n X := by
  have key : ∀ {g : Nat} {cs : Array Value} {T : TypeId}, W.heap[g]? = some (Obj.cells cs T (0, 0)) → (W.putObj l o').heap[g]? = W.heap[g]? := fun {g cs T} hg => World.putObj_heap_other (fun e => by
    rw [e, hl] at hg
    injection hg with hg
    rw [hg] at hc
    cases hc)
  exact h.keep (key h.1) (key h.2.1)
/-- The first loop: the search backward from those of ns. -/
def L1I (wC : World) (n b1 l1 : Nat) (V1 : Nat → Nat) (S : Nat) (ns : List Nat) (v : Value) (wr : World) : Prop :=
  ∃ X o, Dfs (nxl n V1) ns (fun x => S.testBit x) (fun x => X.testBit x) o ∧ Lst.OwnI wC.heap.size wr v (natI o) ∧ RowAt wr b1 l1 n X ∧ Fr (fun g => g = l1) wC wr
/-- Behind a round of it. -/
theorem L1I.step {wC : World} {ns : List Nat} {v v' : Value} {wr w' : World} {X X' c : Nat} {o o' : List Nat} {V1 : Nat → Nat} (h1 : Dfs (nxl n V1) ns (fun x => S.testBit x) (fun x => X.testBit x) o) (ho : Lst.OwnI wC.heap.size wr v (natI o)) (hf : Fr (fun g => g = l1) wC wr)
    (h2 : Lst.OwnI wC.heap.size w' v' (natI o ++ natI o')) (h3 : RowAt w' b1 l1 n X') (h4 : Dfs (nxl n V1) [c] (fun x => X.testBit x) (fun x => X'.testBit x) o') (h5 : Fr (fun g => g = l1 ∨ v.ownBlock = some g) wr w') : L1I wC n b1 l1 V1 S (ns ++ [c]) v' w' := by
  refine ⟨X', o ++ o', dfs_snoc h1 h4, by rw [natI_app]; exact h2, h3, hf.trans h5 (fun g hg e => e.elim id fun e => ?_)⟩
  have := (World.ownsRow.lt ho g e).1
  omega
/-- The second loop: behind k rounds over those of o, from the last one on. -/
def L2I (wE : World) (B : Nat) (k : CB) (n m lb lg LV : Nat) (f : Int × Int → Int) (E : Nat → Nat → Prop) (u v : Nat) (V : Nat → Nat → Nat) (S b2 l2 : Nat) (o : List Nat) (j : Nat) (Wc : World) : Prop :=
  ∃ Vk Lk Xk, CS B k n Wc f Vk (some (lb, lg, Lk)) m ∧ Ren n E u v (fun x => Xk.testBit x) Vk ∧ Todo (nxc n (V 1)) (fun x => S.testBit x) (fun x => Xk.testBit x) (o.drop (o.length - j)) ∧ RowAt Wc b2 l2 n Xk ∧ Shr n V Vk LV Lk ∧ Vk 0 = V 0 ∧ Vk 1 = V 1 ∧ Fr (fun g => g = l2 ∨ g = lg ∨ ∃ i, i < n ∧ g = k.rg 2 i) wE Wc
theorem L2I.below {o : List Nat} {j : Nat} (h : L2I wE B k n m lb lg LV f E u v V S b2 l2 o j W) (hb : Below W.heap.size W W') : L2I wE B k n m lb lg LV f E u v V S b2 l2 o j W' := by
  obtain ⟨Vk, Lk, Xk, h1, h2, h3, h4, h5, h6, h7, h8⟩ := h
  exact ⟨Vk, Lk, Xk, h1.below hb, h2, h3, h4.below hb, h5, h6, h7, h8.trans (F' := fun _ => False) (Fr.of_below hb) (fun _ _ e => e.elim)⟩
theorem L2I.put {o : List Nat} {j l : Nat} {ob ob' : Obj} (h : L2I wE B k n m lb lg LV f E u v V S b2 l2 o j W) (hl : W.heap[l]? = some ob) (hc : ob.isCells = false) (hmb : k.mb < wE.heap.size) (hw : wE.heap.size ≤ l) : L2I wE B k n m lb lg LV f E u v V S b2 l2 o j (W.putObj l ob') := by
  obtain ⟨Vk, Lk, Xk, h1, h2, h3, h4, h5, h6, h7, h8⟩ := h
  refine ⟨Vk, Lk, Xk, h1.put hl hc (by omega), h2, h3, row_put h4 hl hc, h5, h6, h7, h8.trans (F' := fun g => g = l) ⟨rfl, rfl, rfl, by simp, fun g hg hne => World.putObj_heap_other hne⟩ (fun g hg e => by omega)⟩
theorem shr_same {V1 V2 : Nat → Nat → Nat} {L1 L2 : Nat} (h : Shr n V1 V2 L1 L2) : Shr n V1 V2 L1 L2 := h
theorem cut_zero (V : Nat → Nat → Nat) (X : Nat) (cs : List Nat) : cutV V X cs 0 = V 0 := by
  funext x
  unfold cutV
  rw [if_neg (fun e => by omega)]
theorem cut_one (V : Nat → Nat → Nat) (X : Nat) (cs : List Nat) : cutV V X cs 1 = V 1 := by
  funext x
  unfold cutV
  rw [if_neg (fun e => by omega)]
theorem drop_next {o : List Nat} {j i x : Nat} (hji : j + i + 1 = o.length) (hx : o.getD i 0 = x) : o.drop (o.length - (j + 1)) = x :: o.drop (o.length - j) ∧ o = o.take i ++ x :: o.drop (o.length - j) := by
  have h1 : o.length - (j + 1) = i := by omega
  have h2 : o.length - j = i + 1 := by omega
  have hi : i < o.length := by omega
  have h3 : o[i] = x := by rw [← hx]; simp [List.getD_eq_getElem?_getD, hi]
  have h4 : o.drop i = x :: o.drop (i + 1) := by rw [List.drop_eq_getElem_cons hi, h3]
  rw [h1, h2]
  refine ⟨h4, ?_⟩
  rw [← h4, List.take_append_drop]
theorem dfs_one_no {nx : Nat → List Nat} {x : Nat} {L M : Nat → Bool} {t : List Nat} (h : Dfs nx [x] L M t) (hx : L x = false) : t = [] ∧ M = L := by
  cases h with
  | skip _ h => cases h; exact ⟨rfl, rfl⟩
  | go h1 _ _ => rw [hx] at h1; cases h1
theorem dfs_one_yes {nx : Nat → List Nat} {x : Nat} {L M : Nat → Bool} {t : List Nat} (h : Dfs nx [x] L M t) (hx : L x = true) : 0 < t.length := by
  have := (h.told.2 x).2 ⟨hx, h.shut.1 x (by simp)⟩
  exact List.length_pos_iff.2 (List.ne_nil_of_mem this)
theorem rkb_of {F : Nat → Prop} (hU : ∀ g, F g → ∃ cur, W.heap[g]? = some (Obj.cells cur 86 (0, 0))) (hf : Fr F W W') : RKb W W' :=
  ⟨hf.size, fun g o hg hc => (hf.block (heap_lt hg) (fun e => by
    obtain ⟨cur, h⟩ := hU g e
    rw [h] at hg
    injection hg with hg
    rw [← hg] at hc
    cases hc)).trans hg⟩
/-- A round in which the node was met. -/
theorem L2I.skip {o : List Nat} {j i x X' : Nat} {Xk Lk : Nat} {Vk : Nat → Nat → Nat} {ns : List Nat} {pv : Nat → List Nat} {M0 : Nat → Bool} (hO : Dfs pv ns (fun x => S.testBit x) M0 o) (hji : j + i + 1 = o.length) (hx : o.getD i 0 = x)
    (h1 : CS B k n W' f Vk (some (lb, lg, Lk)) m) (h2 : Ren n E u v (fun x => Xk.testBit x) Vk) (h3 : Todo (nxc n (V 1)) (fun x => S.testBit x) (fun x => Xk.testBit x) (o.drop (o.length - j))) (h4 : RowAt W' b2 l2 n X') (he : ∀ z, X'.testBit z = Xk.testBit z) (hxk : Xk.testBit x = false) (h5 : Shr n V Vk LV Lk) (h6 : Vk 0 = V 0) (h7 : Vk 1 = V 1) (h8 : Fr (fun g => g = l2 ∨ g = lg ∨ ∃ i, i < n ∧ g = k.rg 2 i) wE W') :
    L2I wE B k n m lb lg LV f E u v V S b2 l2 o (j + 1) W' := by
  obtain ⟨e1, e2⟩ := drop_next hji hx
  have hfe : (fun x => X'.testBit x) = fun x => Xk.testBit x := funext he
  refine ⟨Vk, Lk, X', h1, by rw [hfe]; exact h2, ?_, h4, h5, h6, h7, h8⟩
  rw [hfe, e1]
  exact ren_skip hO e2 h3 hxk
/-- A round that makes a component's rows anew. -/
theorem L2I.cut {o t : List Nat} {j i x X' X : Nat} {Xk Lk L' : Nat} {Vk : Nat → Nat → Nat} {ns : List Nat} {M0 : Nat → Bool} (hS : S < 2 ^ n) (hO : Dfs (nxl n (V 1)) ns (fun x => S.testBit x) M0 o) (hall : ∀ z, S.testBit z = true → z ∈ o) (hji : j + i + 1 = o.length) (hx : o.getD i 0 = x)
    (h2 : Ren n E u v (fun x => Xk.testBit x) Vk) (h3 : Todo (nxc n (V 1)) (fun x => S.testBit x) (fun x => Xk.testBit x) (o.drop (o.length - j))) (hxk : Xk.testBit x = true) (hd : Dfs (nxl n (Vk 0)) [x] (fun x => Xk.testBit x) (fun x => X'.testBit x) t) (h5 : Shr n V Vk LV Lk) (h6 : Vk 0 = V 0) (h7 : Vk 1 = V 1) (hV : ∀ x, x < n → Vk 2 x < 2 ^ n)
    (h1 : CS B k n W' f (cutV Vk X t) (some (lb, lg, L')) m) (hX : SetX n Vk t X) (hL : ∀ x, x < n → L'.testBit x = (Lk.testBit x || toldB Vk X t x)) (h4 : RowAt W' b2 l2 n X') (h8 : Fr (fun g => g = l2 ∨ g = lg ∨ ∃ i, i < n ∧ g = k.rg 2 i) wE W') :
    L2I wE B k n m lb lg LV f E u v V S b2 l2 o (j + 1) W' := by
  obtain ⟨e1, e2⟩ := drop_next hji hx
  rw [← h7] at hO h3
  obtain ⟨q1, q2, q3, q4, q5, q6⟩ := ren_round h2 (fun z hz => bit_lt hS hz) hO hall e2 h3 hxk hd
  refine ⟨cutV Vk X t, L', X', h1, ren_cut h2 q1 q2 q3 q4 hX q6, ?_, h4, h5.trans (shr_cut hV hL), by rw [cut_zero, h6], by rw [cut_one, h7], h8⟩
  rw [e1, ← h7]
  exact q5
/-- Behind the last round all rows are right. -/
theorem L2I.done {o : List Nat} (hall : ∀ z, S.testBit z = true → z ∈ o) (h : L2I wE B k n m lb lg LV f E u v V S b2 l2 o o.length W) :
    ∃ Vk Lk, CS B k n W f Vk (some (lb, lg, Lk)) m ∧ (∀ x, x < n → ∀ y, y < n → ((Vk 0 x).testBit y = true ↔ Less E u v x y)) ∧ (∀ x, x < n → ∀ y, y < n → ((Vk 1 y).testBit x = true ↔ Less E u v x y)) ∧ (∀ x, x < n → ∀ y, y < n → ((Vk 2 x).testBit y = true ↔ Rs (Less E u v) x y)) ∧ Shr n V Vk LV Lk := by
  obtain ⟨Vk, Lk, Xk, h1, h2, h3, h4, h5, h6, h7, h8⟩ := h
  rw [Nat.sub_self, List.drop_zero] at h3
  have hd := Todo.done hall h3
  exact ⟨Vk, Lk, h1, h2.next, h2.prev, fun x hx y hy => ren_end h2 (fun z _ => hd z) hx hy, h5⟩
end Go.Proofs.YtakgepdlninnhaaDoor.Cs
namespace Go.Proofs.YtakgepdlninnhaaDoor.Cs
open Go.ChangeShapes Go.WideShapes Go.ChangeAt Go.RowKit Go.Shelf Base F Bits Df Cl
attribute [local go_sem] Oper.semAt_some
theorem joinG5 {α β γ δ ε : Type} {P : Prop} (J : α → β → γ → δ → ε → Prop) (G : α → β → γ → δ → ε → Prop) (h1 : (∀ x y z u v, J x y z u v → G x y z u v) → P) (h2 : ∀ x y z u v, J x y z u v → G x y z u v) : P := h1 h2
/-- A function that does not panic. -/
def NoP (Q : Exit → Act → World → Prop) : Exit → Act → World → Prop
  | .panic _, _, _ => False
  | e, a, w => Q e a w
theorem NoP.of {Q : Exit → Act → World → Prop} {e : Exit} {a : Act} {w : World} (h : NoP Q e a w) : Q e a w := by
  cases e <;> first | exact h | exact h.elim
/-- A search's function and its row of those that are left. -/
def SrF (W0 : World) (c n S bl gl cg : Nat) (X : World) : Prop := RowAt X bl gl n S ∧ X.heap[cg]? = some (cellF c) ∧ W0.heap.size ≤ gl
def AlF (W0 : World) (g : Nat) (X : World) : Prop := W0.heap.size ≤ g ∧ ∃ z, z.size = 2 ∧ X.heap[g]? = some (.cells z 79)
theorem SrF.below {W0 X Y : World} {c n S bl gl cg : Nat} (h : SrF W0 c n S bl gl cg X) (hb : Below X.heap.size X Y) : SrF W0 c n S bl gl cg Y := ⟨h.1.below hb, (hb.block _ (heap_lt h.2.1)).trans h.2.1, h.2.2⟩
theorem AlF.below {W0 X Y : World} {g : Nat} (h : AlF W0 g X) (hb : Below X.heap.size X Y) : AlF W0 g Y := by
  obtain ⟨h1, z, h2, h3⟩ := h
  exact ⟨h1, z, h2, (hb.block _ (heap_lt h3)).trans h3⟩
theorem cell_below {X Y : World} {g : Nat} {o : Obj} (h : X.heap[g]? = some o) (hb : Below X.heap.size X Y) : Y.heap[g]? = some o := (hb.block _ (heap_lt h)).trans h
theorem stored_ne {X Y : World} {g x : Nat} {o : Obj} {z y : Array Value} {T T' : TypeId} (hst : Stored X g o Y) (hg : X.heap[g]? = some (.cells z T)) (hx : X.heap[x]? = some (.cells y T')) (hT : T' ≠ T) : Y.heap[x]? = X.heap[x]? :=
  hst.2.2.2.2.2 x (fun e => by
    rw [e, hg] at hx
    simp only [Option.some.injEq, Obj.cells.injEq] at hx
    exact hT hx.2.1.symm)
theorem SrF.stored {W0 X Y : World} {c n S bl gl cg g : Nat} {o : Obj} {z : Array Value} (h : SrF W0 c n S bl gl cg X) (hst : Stored X g o Y) (hg : X.heap[g]? = some (.cells z 79)) : SrF W0 c n S bl gl cg Y := by
  have h2 := h.2.1
  unfold cellF at h2
  exact ⟨h.1.keep (stored_ne hst hg h.1.1 (by decide)) (stored_ne hst hg h.1.2.1 (by decide)), (stored_ne hst hg h2 (by decide)).trans h.2.1, h.2.2⟩
theorem cellF_stored {X Y : World} {c cb g : Nat} {o : Obj} {z : Array Value} (h : X.heap[cb]? = some (cellF c)) (hst : Stored X g o Y) (hg : X.heap[g]? = some (.cells z 79)) : Y.heap[cb]? = some (cellF c) := by
  have h2 := h
  unfold cellF at h2
  exact (stored_ne hst hg h2 (by decide)).trans h
set_option maxRecDepth 100000 in
theorem wp_store_se {o : Oper} {a : Act} {w : World} {K : Act → World → Prop} {Q : Exit → Act → World → Prop} (x y : Operand) (ho : o.op = .store 79 x y)
    (g F : Nat) (lb : Array Value) (bl : Nat) (z : Array Value) (hx : a.eval x = .pointer (some ⟨g, 0, none⟩)) (hy : a.eval y = .agg #[fnV F lb, .pointer (some ⟨bl, 0, none⟩)]) (hg : w.heap[g]? = some (.cells z 79)) (hz : z.size = 2)
    (h : ∀ w', Stored w g (.cells #[fnV F lb, .pointer (some ⟨bl, 0, none⟩)] 79) w' → K (a.put o.dst undef) w') : o.wp Tryd.prog a w K Q :=
  wp_store_row _ x y ho g _ hx hy 79 _ hg (by kernel_rfl) hz (by simp [Value.oneCell', fnV]) (h _ (stored_setRow _ _ _ _ _ hg))
/-- Both searches are laid. -/
def RJ (W0 : World) (c n S cb g4 g5 : Nat) (U : World) : Prop :=
  ∃ b1 l1 q1 b2 l2 q2, U.heap[g4]? = some (.cells #[fnV 71 #[.pointer (some ⟨q1, 0, none⟩)], .pointer (some ⟨b1, 0, none⟩)] 79) ∧
    U.heap[g5]? = some (.cells #[fnV 58 #[.pointer (some ⟨q2, 0, none⟩)], .pointer (some ⟨b2, 0, none⟩)] 79) ∧
    SrF W0 c n S b1 l1 q1 U ∧ SrF W0 c n S b2 l2 q2 U ∧ l1 ≠ l2 ∧ U.heap[cb]? = some (cellF c) ∧ Below W0.heap.size W0 U ∧ g4 ≠ g5
set_option maxRecDepth 100000 in
set_option maxHeartbeats 16000000 in
theorem renew_any {B n m lb lg : Nat} {k : CB} {f : Int × Int → Int} {E : Nat → Nat → Prop} {u v : Nat} (hTB : 0 < B) : RenC B k n m lb lg f E u v := by
  intro W V LV bs gs S hCS hT hrS hne hlg hmid hnr hS
  obtain ⟨cb, hcb⟩ : ∃ g, g = W.heap.size := ⟨_, rfl⟩
  obtain ⟨w1, hw1⟩ : ∃ X, X = W.alloc (cellF k.b) := ⟨_, rfl⟩
  have FC : Hid (w1.heap[cb]? = some (cellF k.b)) := Lib.hid (by rw [hw1, hcb]; exact heap_alloc_at _ _ _ rfl)
  have HB : Hid (Below W.heap.size W w1.drew) := Lib.hid (by rw [hw1]; exact below_drewN ((Below.refl _ _).alloc (Nat.le_refl _) _) 1)
  have HRS := Lib.hid hrS
  have HCS := Lib.hid hCS
  have HT := Lib.hid hT
  have HTB := Lib.hid hTB
  have HNE := Lib.hid (And.intro hne hlg)
  have HMID := Lib.hid hmid
  have HNR := Lib.hid hnr
  have HSS := Lib.hid hS
  have c0 := cellF_at FC.out
  unfold cellF at hw1
  clear hCS hT hrS hne hlg hmid hnr hS hTB
  refine (callsIn_wide (n := 5)).1 ?_
  refine callsIn_of_wp_marks Tryd.func49 rfl trivial ?_ rfl
  refine wpIn_mono (Q := NoP (bodyPostM Fence.wide 5 Tryd.prog _ (UnP B k n m lb lg LV f E u v V W))) (wpIn_wide.2 ?_) (fun _ _ _ h => NoP.of h)
  simp only [Tryd.ntmps49, List.size_toArray, List.length_cons, List.length_nil, Nat.reduceAdd, Nat.reduceSub, Array.replicate_succ, Array.replicate_zero, List.push_toArray, List.append_toArray, List.nil_append, List.cons_append]
  go_upto_region 1 with fail
  rw [← hw1, ← hcb]
  clear hw1 hcb c0
  refine joinG5 (fun (x y : Nat) (z u : Value) (U : World) => RJ W k.b n S cb x y U) ?G (fun HJ => ?fork) ?rest
  case fork =>
    replace HJ := Lib.hid HJ
    refine wp_region_held_drew (S := fun X => X.cell? ⟨cb, 0, none⟩ = some (.pointer (some ⟨k.b, 0, none⟩))) (by kernel_rfl) (cellF_at FC.out) (fun hHeld0 => ?_)
    obtain ⟨U0, hU0⟩ : ∃ X, X = w1.drew := ⟨_, rfl⟩
    rw [← hU0] at HB hHeld0 ⊢
    replace FC : Hid (U0.heap[cb]? = some (cellF k.b)) := Lib.hid (by rw [hU0]; exact FC.out)
    clear hU0
    refine wpAnyH_take (i := 0) (v := ?_) rfl (by kernel_rfl) (by kernel_rfl) (by kernel_rfl) (fun _ _ _ h => h) (Or.inl ⟨by rfl, ?yrn1⟩) (by assumption) ?qrn1
    case yrn1 => (intro wz hSw; (try dsimp only at hSw); go_simp <;> with_reducible rfl)
    try simp only [Act.put, List.getElem_toArray, List.getElem_cons_zero, List.setIfInBounds_toArray, List.set_cons_zero, List.set_cons_succ]
    refine wpAnyH_take (i := 1) (v := ?_) rfl (by kernel_rfl) (by kernel_rfl) (by kernel_rfl) (fun _ _ _ h => h) (Or.inl ⟨by rfl, ?yrn2⟩) (by assumption) ?qrn2
    case yrn2 => (intro wz hSw; (try dsimp only at hSw); go_simp <;> with_reducible rfl)
    try simp only [Act.put, List.getElem_toArray, List.getElem_cons_zero, List.getElem_cons_succ, List.setIfInBounds_toArray, List.set_cons_zero, List.set_cons_succ]
    refine wpAnyH_take (i := 3) (v := ?_) rfl (by kernel_rfl) (by kernel_rfl) (by kernel_rfl) (fun _ _ _ h => h) (Or.inl ⟨by rfl, ?yrn3⟩) (by assumption) ?qrn3
    case yrn3 => (intro wz hSw; (try dsimp only at hSw); go_simp <;> with_reducible rfl)
    try simp only [Act.put, List.getElem_toArray, List.getElem_cons_zero, List.getElem_cons_succ, List.setIfInBounds_toArray, List.set_cons_zero, List.set_cons_succ]
    refine wpAnyH_take (i := 4) (v := ?_) rfl (by kernel_rfl) (by kernel_rfl) (by kernel_rfl) (fun _ _ _ h => h) (Or.inl ⟨by rfl, ?yrn4⟩) (by assumption) ?qrn4
    case yrn4 => (intro wz hSw; (try dsimp only at hSw); go_simp <;> with_reducible rfl)
    try simp only [Act.put, List.getElem_toArray, List.getElem_cons_zero, List.getElem_cons_succ, List.setIfInBounds_toArray, List.set_cons_zero, List.set_cons_succ]
    refine wpAnyH_ready (rs := [2, 6, 7]) (by kernel_rfl) (by simp) ?_
    refine AllReadyH.cons rfl (fun K hK => ?brn5) ?crn5
    case brn5 =>
      go_simp
      refine (backward_any (k := k) (HRS.out.below ((HB.out)))).mono ?_
      rintro e u5 ⟨b1, l1, q1, rfl, hr, hcg, hb, hgl⟩
      obtain ⟨v14, hv14⟩ : ∃ v, v = Value.agg #[fnV 71 #[.pointer (some ⟨q1, 0, none⟩)], .pointer (some ⟨b1, 0, none⟩)] := ⟨_, rfl⟩
      rw [← hv14]
      have HV14 := Lib.hid hv14
      clear hv14
      have F2 : Hid (SrF W k.b n S b1 l1 q1 u5) := Lib.hid ⟨hr, hcg, Nat.le_trans HB.out.size hgl⟩
      replace FC := Lib.hid (cell_below FC.out hb)
      replace HB := Lib.hid (HB.out.trans (hb.mono HB.out.size))
      clear hb hr hcg hgl
      refine hK.out _ _ (cellF_at FC.out) (fun hHeld5 => ?_)
      clear hK K
      try simp only [Act.put, List.getElem_toArray, List.getElem_cons_zero, List.getElem_cons_succ, List.setIfInBounds_toArray, List.set_cons_zero, List.set_cons_succ]
      refine wpAnyH_ready (rs := [5, 6, 7]) (by kernel_rfl) (by simp) ?_
      refine AllReadyH.cons rfl (fun K hK => ?brn6) ?crn6
      case brn6 =>
        go_simp
        refine (onward_any (k := k) (HRS.out.below ((HB.out)))).mono ?_
        rintro e u6 ⟨b2, l2, q2, rfl, hr, hcg, hb, hgl⟩
        obtain ⟨v17, hv17⟩ : ∃ v, v = Value.agg #[fnV 58 #[.pointer (some ⟨q2, 0, none⟩)], .pointer (some ⟨b2, 0, none⟩)] := ⟨_, rfl⟩
        rw [← hv17]
        have HV17 := Lib.hid hv17
        clear hv17
        have HNL : Hid (l1 ≠ l2) := Lib.hid (by have := heap_lt F2.out.1.2.1; omega)
        have F5 : Hid (SrF W k.b n S b2 l2 q2 u6) := Lib.hid ⟨hr, hcg, Nat.le_trans HB.out.size hgl⟩
        replace F2 := Lib.hid (F2.out.below hb)
        replace FC := Lib.hid (cell_below FC.out hb)
        replace HB := Lib.hid (HB.out.trans (hb.mono HB.out.size))
        clear hb hr hcg hgl
        refine hK.out _ _ (cellF_at FC.out) (fun hHeld6 => ?_)
        clear hK K
        try simp only [Act.put, List.getElem_toArray, List.getElem_cons_zero, List.getElem_cons_succ, List.setIfInBounds_toArray, List.set_cons_zero, List.set_cons_succ]
        refine wpAnyH_ready (rs := [6, 7]) (by kernel_rfl) (by simp) ?_
        refine AllReadyH.cons rfl (fun K hK => ?brn7) ?crn7
        case brn7 =>
          go_simp
          obtain ⟨g4, hg⟩ : ∃ g, g = u6.heap.size := ⟨_, rfl⟩
          obtain ⟨u7, hu⟩ : ∃ X, X = u6.alloc (.cells #[.nilFunc, .pointer none] 79) := ⟨_, rfl⟩
          have hb : Below u6.heap.size u6 u7 := by rw [hu]; exact (Below.refl _ _).alloc (Nat.le_refl _) _
          have F6 : Hid (AlF W g4 u7) := Lib.hid ⟨by rw [hg]; exact HB.out.size, _, rfl, by rw [hu, hg]; exact heap_alloc_at _ _ _ rfl⟩
          rw [← hg, ← hu]
          replace F2 := Lib.hid (F2.out.below hb)
          replace F5 := Lib.hid (F5.out.below hb)
          replace FC := Lib.hid (cell_below FC.out hb)
          replace HB := Lib.hid (HB.out.trans (hb.mono HB.out.size))
          clear hb hg hu
          refine hK.out _ _ (cellF_at FC.out) (fun hHeld7 => ?_)
          clear hK K
          try simp only [Act.put, List.getElem_toArray, List.getElem_cons_zero, List.getElem_cons_succ, List.setIfInBounds_toArray, List.set_cons_zero, List.set_cons_succ]
          refine wpAnyH_ready (rs := [7]) (by kernel_rfl) (by simp) ?_
          refine AllReadyH.cons rfl (fun K hK => ?_) AllReadyH.nil
          go_simp
          obtain ⟨g5, hg⟩ : ∃ g, g = u7.heap.size := ⟨_, rfl⟩
          obtain ⟨u8, hu⟩ : ∃ X, X = u7.alloc (.cells #[.nilFunc, .pointer none] 79) := ⟨_, rfl⟩
          have hb : Below u7.heap.size u7 u8 := by rw [hu]; exact (Below.refl _ _).alloc (Nat.le_refl _) _
          have HNG : Hid (g4 ≠ g5) := Lib.hid (by obtain ⟨_, z, _, hz⟩ := F6.out; have := heap_lt hz; omega)
          have F7 : Hid (AlF W g5 u8) := Lib.hid ⟨by rw [hg]; exact HB.out.size, _, rfl, by rw [hu, hg]; exact heap_alloc_at _ _ _ rfl⟩
          rw [← hg, ← hu]
          replace F2 := Lib.hid (F2.out.below hb)
          replace F5 := Lib.hid (F5.out.below hb)
          replace F6 := Lib.hid (F6.out.below hb)
          replace FC := Lib.hid (cell_below FC.out hb)
          replace HB := Lib.hid (HB.out.trans (hb.mono HB.out.size))
          clear hb hg hu
          refine hK.out _ _ (cellF_at FC.out) (fun hHeld8 => ?_)
          clear hK K
          try simp only [Act.put, List.getElem_toArray, List.getElem_cons_zero, List.getElem_cons_succ, List.setIfInBounds_toArray, List.set_cons_zero, List.set_cons_succ]
          refine wpAnyH_ready (rs := [8]) (by kernel_rfl) (by simp) ?_
          refine AllReadyH.cons rfl (fun K hK => ?_) AllReadyH.nil
          rw [if_pos (by rfl)]
          obtain ⟨z, hz, hgz⟩ := F6.out.2
          refine wp_store_se (.tmp 4) (.tmp 14) rfl g4 71 #[.pointer (some ⟨q1, 0, none⟩)] b1 z rfl HV14.out hgz hz ?_
          intro u9 hst
          replace F2 := Lib.hid (F2.out.stored hst hgz)
          replace F5 := Lib.hid (F5.out.stored hst hgz)
          replace FC := Lib.hid (cellF_stored FC.out hst hgz)
          replace HB := Lib.hid (hst.below HB.out F6.out.1)
          have P8 := Lib.hid hst.2.2.2.2.1
          replace F7 : Hid (AlF W g5 u9) := Lib.hid (by obtain ⟨p1, z7, p2, p3⟩ := F7.out; exact ⟨p1, z7, p2, (hst.2.2.2.2.2 _ HNG.out.symm).trans p3⟩)
          clear hst hgz hz
          refine hK.out _ _ (cellF_at FC.out) (fun hHeld9 => ?_)
          clear hK K
          try simp only [Act.put, List.getElem_toArray, List.getElem_cons_zero, List.getElem_cons_succ]
          refine wpAnyH_ready (rs := [9]) (by kernel_rfl) (by simp) ?_
          refine AllReadyH.cons rfl (fun K hK => ?_) AllReadyH.nil
          rw [if_pos (by rfl)]
          obtain ⟨z, hz, hgz⟩ := F7.out.2
          refine wp_store_se (.tmp 5) (.tmp 17) rfl g5 58 #[.pointer (some ⟨q2, 0, none⟩)] b2 z rfl HV17.out hgz hz ?_
          intro u10 hst
          replace F2 := Lib.hid (F2.out.stored hst hgz)
          replace F5 := Lib.hid (F5.out.stored hst hgz)
          replace FC := Lib.hid (cellF_stored FC.out hst hgz)
          replace HB := Lib.hid (hst.below HB.out F7.out.1)
          have P9 := Lib.hid hst.2.2.2.2.1
          replace P8 := Lib.hid ((hst.2.2.2.2.2 _ HNG.out).trans P8.out)
          clear hst hgz hz
          refine hK.out _ _ (cellF_at FC.out) (fun hHeld10 => ?_)
          clear hK K
          try simp only [Act.put, List.getElem_toArray, List.getElem_cons_zero, List.getElem_cons_succ]
          refine wpAnyH_done (by kernel_rfl) ?_ _
          exact HJ.out g4 g5 v14 v17 u10 ⟨_, _, _, _, _, _, P8.out, P9.out, F2.out, F5.out, HNL.out, FC.out, HB.out, HNG.out⟩
        refine AllReadyH.cons rfl (fun K hK => ?brn11) ?crn11
        case brn11 =>
          go_simp
          obtain ⟨g5, hg⟩ : ∃ g, g = u6.heap.size := ⟨_, rfl⟩
          obtain ⟨u11, hu⟩ : ∃ X, X = u6.alloc (.cells #[.nilFunc, .pointer none] 79) := ⟨_, rfl⟩
          have hb : Below u6.heap.size u6 u11 := by rw [hu]; exact (Below.refl _ _).alloc (Nat.le_refl _) _
          have F7 : Hid (AlF W g5 u11) := Lib.hid ⟨by rw [hg]; exact HB.out.size, _, rfl, by rw [hu, hg]; exact heap_alloc_at _ _ _ rfl⟩
          rw [← hg, ← hu]
          replace F2 := Lib.hid (F2.out.below hb)
          replace F5 := Lib.hid (F5.out.below hb)
          replace FC := Lib.hid (cell_below FC.out hb)
          replace HB := Lib.hid (HB.out.trans (hb.mono HB.out.size))
          clear hb hg hu
          refine hK.out _ _ (cellF_at FC.out) (fun hHeld11 => ?_)
          clear hK K
          try simp only [Act.put, List.getElem_toArray, List.getElem_cons_zero, List.getElem_cons_succ, List.setIfInBounds_toArray, List.set_cons_zero, List.set_cons_succ]
          refine wpAnyH_ready (rs := [6]) (by kernel_rfl) (by simp) ?_
          refine AllReadyH.cons rfl (fun K hK => ?_) AllReadyH.nil
          go_simp
          obtain ⟨g4, hg⟩ : ∃ g, g = u11.heap.size := ⟨_, rfl⟩
          obtain ⟨u12, hu⟩ : ∃ X, X = u11.alloc (.cells #[.nilFunc, .pointer none] 79) := ⟨_, rfl⟩
          have hb : Below u11.heap.size u11 u12 := by rw [hu]; exact (Below.refl _ _).alloc (Nat.le_refl _) _
          have HNG : Hid (g4 ≠ g5) := Lib.hid (by obtain ⟨_, z, _, hz⟩ := F7.out; have := heap_lt hz; omega)
          have F6 : Hid (AlF W g4 u12) := Lib.hid ⟨by rw [hg]; exact HB.out.size, _, rfl, by rw [hu, hg]; exact heap_alloc_at _ _ _ rfl⟩
          rw [← hg, ← hu]
          replace F2 := Lib.hid (F2.out.below hb)
          replace F5 := Lib.hid (F5.out.below hb)
          replace F7 := Lib.hid (F7.out.below hb)
          replace FC := Lib.hid (cell_below FC.out hb)
          replace HB := Lib.hid (HB.out.trans (hb.mono HB.out.size))
          clear hb hg hu
          refine hK.out _ _ (cellF_at FC.out) (fun hHeld12 => ?_)
          clear hK K
          try simp only [Act.put, List.getElem_toArray, List.getElem_cons_zero, List.getElem_cons_succ, List.setIfInBounds_toArray, List.set_cons_zero, List.set_cons_succ]
          refine wpAnyH_ready (rs := [8]) (by kernel_rfl) (by simp) ?_
          refine AllReadyH.cons rfl (fun K hK => ?_) AllReadyH.nil
          rw [if_pos (by rfl)]
          obtain ⟨z, hz, hgz⟩ := F6.out.2
          refine wp_store_se (.tmp 4) (.tmp 14) rfl g4 71 #[.pointer (some ⟨q1, 0, none⟩)] b1 z rfl HV14.out hgz hz ?_
          intro u13 hst
          replace F2 := Lib.hid (F2.out.stored hst hgz)
          replace F5 := Lib.hid (F5.out.stored hst hgz)
          replace FC := Lib.hid (cellF_stored FC.out hst hgz)
          replace HB := Lib.hid (hst.below HB.out F6.out.1)
          have P8 := Lib.hid hst.2.2.2.2.1
          replace F7 : Hid (AlF W g5 u13) := Lib.hid (by obtain ⟨p1, z7, p2, p3⟩ := F7.out; exact ⟨p1, z7, p2, (hst.2.2.2.2.2 _ HNG.out.symm).trans p3⟩)
          clear hst hgz hz
          refine hK.out _ _ (cellF_at FC.out) (fun hHeld13 => ?_)
          clear hK K
          try simp only [Act.put, List.getElem_toArray, List.getElem_cons_zero, List.getElem_cons_succ]
          refine wpAnyH_ready (rs := [9]) (by kernel_rfl) (by simp) ?_
          refine AllReadyH.cons rfl (fun K hK => ?_) AllReadyH.nil
          rw [if_pos (by rfl)]
          obtain ⟨z, hz, hgz⟩ := F7.out.2
          refine wp_store_se (.tmp 5) (.tmp 17) rfl g5 58 #[.pointer (some ⟨q2, 0, none⟩)] b2 z rfl HV17.out hgz hz ?_
          intro u14 hst
          replace F2 := Lib.hid (F2.out.stored hst hgz)
          replace F5 := Lib.hid (F5.out.stored hst hgz)
          replace FC := Lib.hid (cellF_stored FC.out hst hgz)
          replace HB := Lib.hid (hst.below HB.out F7.out.1)
          have P9 := Lib.hid hst.2.2.2.2.1
          replace P8 := Lib.hid ((hst.2.2.2.2.2 _ HNG.out).trans P8.out)
          clear hst hgz hz
          refine hK.out _ _ (cellF_at FC.out) (fun hHeld14 => ?_)
          clear hK K
          try simp only [Act.put, List.getElem_toArray, List.getElem_cons_zero, List.getElem_cons_succ]
          refine wpAnyH_done (by kernel_rfl) ?_ _
          exact HJ.out g4 g5 v14 v17 u14 ⟨_, _, _, _, _, _, P8.out, P9.out, F2.out, F5.out, HNL.out, FC.out, HB.out, HNG.out⟩
        exact AllReadyH.nil
      refine AllReadyH.cons rfl (fun K hK => ?brn15) ?crn15
      case brn15 =>
        go_simp
        obtain ⟨g4, hg⟩ : ∃ g, g = u5.heap.size := ⟨_, rfl⟩
        obtain ⟨u15, hu⟩ : ∃ X, X = u5.alloc (.cells #[.nilFunc, .pointer none] 79) := ⟨_, rfl⟩
        have hb : Below u5.heap.size u5 u15 := by rw [hu]; exact (Below.refl _ _).alloc (Nat.le_refl _) _
        have F6 : Hid (AlF W g4 u15) := Lib.hid ⟨by rw [hg]; exact HB.out.size, _, rfl, by rw [hu, hg]; exact heap_alloc_at _ _ _ rfl⟩
        rw [← hg, ← hu]
        replace F2 := Lib.hid (F2.out.below hb)
        replace FC := Lib.hid (cell_below FC.out hb)
        replace HB := Lib.hid (HB.out.trans (hb.mono HB.out.size))
        clear hb hg hu
        refine hK.out _ _ (cellF_at FC.out) (fun hHeld15 => ?_)
        clear hK K
        try simp only [Act.put, List.getElem_toArray, List.getElem_cons_zero, List.getElem_cons_succ, List.setIfInBounds_toArray, List.set_cons_zero, List.set_cons_succ]
        refine wpAnyH_ready (rs := [5, 7]) (by kernel_rfl) (by simp) ?_
        refine AllReadyH.cons rfl (fun K hK => ?brn16) ?crn16
        case brn16 =>
          go_simp
          refine (onward_any (k := k) (HRS.out.below ((HB.out)))).mono ?_
          rintro e u16 ⟨b2, l2, q2, rfl, hr, hcg, hb, hgl⟩
          obtain ⟨v17, hv17⟩ : ∃ v, v = Value.agg #[fnV 58 #[.pointer (some ⟨q2, 0, none⟩)], .pointer (some ⟨b2, 0, none⟩)] := ⟨_, rfl⟩
          rw [← hv17]
          have HV17 := Lib.hid hv17
          clear hv17
          have HNL : Hid (l1 ≠ l2) := Lib.hid (by have := heap_lt F2.out.1.2.1; omega)
          have F5 : Hid (SrF W k.b n S b2 l2 q2 u16) := Lib.hid ⟨hr, hcg, Nat.le_trans HB.out.size hgl⟩
          replace F2 := Lib.hid (F2.out.below hb)
          replace F6 := Lib.hid (F6.out.below hb)
          replace FC := Lib.hid (cell_below FC.out hb)
          replace HB := Lib.hid (HB.out.trans (hb.mono HB.out.size))
          clear hb hr hcg hgl
          refine hK.out _ _ (cellF_at FC.out) (fun hHeld16 => ?_)
          clear hK K
          try simp only [Act.put, List.getElem_toArray, List.getElem_cons_zero, List.getElem_cons_succ, List.setIfInBounds_toArray, List.set_cons_zero, List.set_cons_succ]
          refine wpAnyH_ready (rs := [7]) (by kernel_rfl) (by simp) ?_
          refine AllReadyH.cons rfl (fun K hK => ?_) AllReadyH.nil
          go_simp
          obtain ⟨g5, hg⟩ : ∃ g, g = u16.heap.size := ⟨_, rfl⟩
          obtain ⟨u17, hu⟩ : ∃ X, X = u16.alloc (.cells #[.nilFunc, .pointer none] 79) := ⟨_, rfl⟩
          have hb : Below u16.heap.size u16 u17 := by rw [hu]; exact (Below.refl _ _).alloc (Nat.le_refl _) _
          have HNG : Hid (g4 ≠ g5) := Lib.hid (by obtain ⟨_, z, _, hz⟩ := F6.out; have := heap_lt hz; omega)
          have F7 : Hid (AlF W g5 u17) := Lib.hid ⟨by rw [hg]; exact HB.out.size, _, rfl, by rw [hu, hg]; exact heap_alloc_at _ _ _ rfl⟩
          rw [← hg, ← hu]
          replace F2 := Lib.hid (F2.out.below hb)
          replace F5 := Lib.hid (F5.out.below hb)
          replace F6 := Lib.hid (F6.out.below hb)
          replace FC := Lib.hid (cell_below FC.out hb)
          replace HB := Lib.hid (HB.out.trans (hb.mono HB.out.size))
          clear hb hg hu
          refine hK.out _ _ (cellF_at FC.out) (fun hHeld17 => ?_)
          clear hK K
          try simp only [Act.put, List.getElem_toArray, List.getElem_cons_zero, List.getElem_cons_succ, List.setIfInBounds_toArray, List.set_cons_zero, List.set_cons_succ]
          refine wpAnyH_ready (rs := [8]) (by kernel_rfl) (by simp) ?_
          refine AllReadyH.cons rfl (fun K hK => ?_) AllReadyH.nil
          rw [if_pos (by rfl)]
          obtain ⟨z, hz, hgz⟩ := F6.out.2
          refine wp_store_se (.tmp 4) (.tmp 14) rfl g4 71 #[.pointer (some ⟨q1, 0, none⟩)] b1 z rfl HV14.out hgz hz ?_
          intro u18 hst
          replace F2 := Lib.hid (F2.out.stored hst hgz)
          replace F5 := Lib.hid (F5.out.stored hst hgz)
          replace FC := Lib.hid (cellF_stored FC.out hst hgz)
          replace HB := Lib.hid (hst.below HB.out F6.out.1)
          have P8 := Lib.hid hst.2.2.2.2.1
          replace F7 : Hid (AlF W g5 u18) := Lib.hid (by obtain ⟨p1, z7, p2, p3⟩ := F7.out; exact ⟨p1, z7, p2, (hst.2.2.2.2.2 _ HNG.out.symm).trans p3⟩)
          clear hst hgz hz
          refine hK.out _ _ (cellF_at FC.out) (fun hHeld18 => ?_)
          clear hK K
          try simp only [Act.put, List.getElem_toArray, List.getElem_cons_zero, List.getElem_cons_succ]
          refine wpAnyH_ready (rs := [9]) (by kernel_rfl) (by simp) ?_
          refine AllReadyH.cons rfl (fun K hK => ?_) AllReadyH.nil
          rw [if_pos (by rfl)]
          obtain ⟨z, hz, hgz⟩ := F7.out.2
          refine wp_store_se (.tmp 5) (.tmp 17) rfl g5 58 #[.pointer (some ⟨q2, 0, none⟩)] b2 z rfl HV17.out hgz hz ?_
          intro u19 hst
          replace F2 := Lib.hid (F2.out.stored hst hgz)
          replace F5 := Lib.hid (F5.out.stored hst hgz)
          replace FC := Lib.hid (cellF_stored FC.out hst hgz)
          replace HB := Lib.hid (hst.below HB.out F7.out.1)
          have P9 := Lib.hid hst.2.2.2.2.1
          replace P8 := Lib.hid ((hst.2.2.2.2.2 _ HNG.out).trans P8.out)
          clear hst hgz hz
          refine hK.out _ _ (cellF_at FC.out) (fun hHeld19 => ?_)
          clear hK K
          try simp only [Act.put, List.getElem_toArray, List.getElem_cons_zero, List.getElem_cons_succ]
          refine wpAnyH_done (by kernel_rfl) ?_ _
          exact HJ.out g4 g5 v14 v17 u19 ⟨_, _, _, _, _, _, P8.out, P9.out, F2.out, F5.out, HNL.out, FC.out, HB.out, HNG.out⟩
        refine AllReadyH.cons rfl (fun K hK => ?brn20) ?crn20
        case brn20 =>
          go_simp
          obtain ⟨g5, hg⟩ : ∃ g, g = u15.heap.size := ⟨_, rfl⟩
          obtain ⟨u20, hu⟩ : ∃ X, X = u15.alloc (.cells #[.nilFunc, .pointer none] 79) := ⟨_, rfl⟩
          have hb : Below u15.heap.size u15 u20 := by rw [hu]; exact (Below.refl _ _).alloc (Nat.le_refl _) _
          have HNG : Hid (g4 ≠ g5) := Lib.hid (by obtain ⟨_, z, _, hz⟩ := F6.out; have := heap_lt hz; omega)
          have F7 : Hid (AlF W g5 u20) := Lib.hid ⟨by rw [hg]; exact HB.out.size, _, rfl, by rw [hu, hg]; exact heap_alloc_at _ _ _ rfl⟩
          rw [← hg, ← hu]
          replace F2 := Lib.hid (F2.out.below hb)
          replace F6 := Lib.hid (F6.out.below hb)
          replace FC := Lib.hid (cell_below FC.out hb)
          replace HB := Lib.hid (HB.out.trans (hb.mono HB.out.size))
          clear hb hg hu
          refine hK.out _ _ (cellF_at FC.out) (fun hHeld20 => ?_)
          clear hK K
          try simp only [Act.put, List.getElem_toArray, List.getElem_cons_zero, List.getElem_cons_succ, List.setIfInBounds_toArray, List.set_cons_zero, List.set_cons_succ]
          refine wpAnyH_ready (rs := [5]) (by kernel_rfl) (by simp) ?_
          refine AllReadyH.cons rfl (fun K hK => ?_) AllReadyH.nil
          go_simp
          refine (onward_any (k := k) (HRS.out.below ((HB.out)))).mono ?_
          rintro e u21 ⟨b2, l2, q2, rfl, hr, hcg, hb, hgl⟩
          obtain ⟨v17, hv17⟩ : ∃ v, v = Value.agg #[fnV 58 #[.pointer (some ⟨q2, 0, none⟩)], .pointer (some ⟨b2, 0, none⟩)] := ⟨_, rfl⟩
          rw [← hv17]
          have HV17 := Lib.hid hv17
          clear hv17
          have HNL : Hid (l1 ≠ l2) := Lib.hid (by have := heap_lt F2.out.1.2.1; omega)
          have F5 : Hid (SrF W k.b n S b2 l2 q2 u21) := Lib.hid ⟨hr, hcg, Nat.le_trans HB.out.size hgl⟩
          replace F2 := Lib.hid (F2.out.below hb)
          replace F6 := Lib.hid (F6.out.below hb)
          replace F7 := Lib.hid (F7.out.below hb)
          replace FC := Lib.hid (cell_below FC.out hb)
          replace HB := Lib.hid (HB.out.trans (hb.mono HB.out.size))
          clear hb hr hcg hgl
          refine hK.out _ _ (cellF_at FC.out) (fun hHeld21 => ?_)
          clear hK K
          try simp only [Act.put, List.getElem_toArray, List.getElem_cons_zero, List.getElem_cons_succ, List.setIfInBounds_toArray, List.set_cons_zero, List.set_cons_succ]
          refine wpAnyH_ready (rs := [8]) (by kernel_rfl) (by simp) ?_
          refine AllReadyH.cons rfl (fun K hK => ?_) AllReadyH.nil
          rw [if_pos (by rfl)]
          obtain ⟨z, hz, hgz⟩ := F6.out.2
          refine wp_store_se (.tmp 4) (.tmp 14) rfl g4 71 #[.pointer (some ⟨q1, 0, none⟩)] b1 z rfl HV14.out hgz hz ?_
          intro u22 hst
          replace F2 := Lib.hid (F2.out.stored hst hgz)
          replace F5 := Lib.hid (F5.out.stored hst hgz)
          replace FC := Lib.hid (cellF_stored FC.out hst hgz)
          replace HB := Lib.hid (hst.below HB.out F6.out.1)
          have P8 := Lib.hid hst.2.2.2.2.1
          replace F7 : Hid (AlF W g5 u22) := Lib.hid (by obtain ⟨p1, z7, p2, p3⟩ := F7.out; exact ⟨p1, z7, p2, (hst.2.2.2.2.2 _ HNG.out.symm).trans p3⟩)
          clear hst hgz hz
          refine hK.out _ _ (cellF_at FC.out) (fun hHeld22 => ?_)
          clear hK K
          try simp only [Act.put, List.getElem_toArray, List.getElem_cons_zero, List.getElem_cons_succ]
          refine wpAnyH_ready (rs := [9]) (by kernel_rfl) (by simp) ?_
          refine AllReadyH.cons rfl (fun K hK => ?_) AllReadyH.nil
          rw [if_pos (by rfl)]
          obtain ⟨z, hz, hgz⟩ := F7.out.2
          refine wp_store_se (.tmp 5) (.tmp 17) rfl g5 58 #[.pointer (some ⟨q2, 0, none⟩)] b2 z rfl HV17.out hgz hz ?_
          intro u23 hst
          replace F2 := Lib.hid (F2.out.stored hst hgz)
          replace F5 := Lib.hid (F5.out.stored hst hgz)
          replace FC := Lib.hid (cellF_stored FC.out hst hgz)
          replace HB := Lib.hid (hst.below HB.out F7.out.1)
          have P9 := Lib.hid hst.2.2.2.2.1
          replace P8 := Lib.hid ((hst.2.2.2.2.2 _ HNG.out).trans P8.out)
          clear hst hgz hz
          refine hK.out _ _ (cellF_at FC.out) (fun hHeld23 => ?_)
          clear hK K
          try simp only [Act.put, List.getElem_toArray, List.getElem_cons_zero, List.getElem_cons_succ]
          refine wpAnyH_done (by kernel_rfl) ?_ _
          exact HJ.out g4 g5 v14 v17 u23 ⟨_, _, _, _, _, _, P8.out, P9.out, F2.out, F5.out, HNL.out, FC.out, HB.out, HNG.out⟩
        exact AllReadyH.nil
      refine AllReadyH.cons rfl (fun K hK => ?brn24) ?crn24
      case brn24 =>
        go_simp
        obtain ⟨g5, hg⟩ : ∃ g, g = u5.heap.size := ⟨_, rfl⟩
        obtain ⟨u24, hu⟩ : ∃ X, X = u5.alloc (.cells #[.nilFunc, .pointer none] 79) := ⟨_, rfl⟩
        have hb : Below u5.heap.size u5 u24 := by rw [hu]; exact (Below.refl _ _).alloc (Nat.le_refl _) _
        have F7 : Hid (AlF W g5 u24) := Lib.hid ⟨by rw [hg]; exact HB.out.size, _, rfl, by rw [hu, hg]; exact heap_alloc_at _ _ _ rfl⟩
        rw [← hg, ← hu]
        replace F2 := Lib.hid (F2.out.below hb)
        replace FC := Lib.hid (cell_below FC.out hb)
        replace HB := Lib.hid (HB.out.trans (hb.mono HB.out.size))
        clear hb hg hu
        refine hK.out _ _ (cellF_at FC.out) (fun hHeld24 => ?_)
        clear hK K
        try simp only [Act.put, List.getElem_toArray, List.getElem_cons_zero, List.getElem_cons_succ, List.setIfInBounds_toArray, List.set_cons_zero, List.set_cons_succ]
        refine wpAnyH_ready (rs := [5, 6]) (by kernel_rfl) (by simp) ?_
        refine AllReadyH.cons rfl (fun K hK => ?brn25) ?crn25
        case brn25 =>
          go_simp
          refine (onward_any (k := k) (HRS.out.below ((HB.out)))).mono ?_
          rintro e u25 ⟨b2, l2, q2, rfl, hr, hcg, hb, hgl⟩
          obtain ⟨v17, hv17⟩ : ∃ v, v = Value.agg #[fnV 58 #[.pointer (some ⟨q2, 0, none⟩)], .pointer (some ⟨b2, 0, none⟩)] := ⟨_, rfl⟩
          rw [← hv17]
          have HV17 := Lib.hid hv17
          clear hv17
          have HNL : Hid (l1 ≠ l2) := Lib.hid (by have := heap_lt F2.out.1.2.1; omega)
          have F5 : Hid (SrF W k.b n S b2 l2 q2 u25) := Lib.hid ⟨hr, hcg, Nat.le_trans HB.out.size hgl⟩
          replace F2 := Lib.hid (F2.out.below hb)
          replace F7 := Lib.hid (F7.out.below hb)
          replace FC := Lib.hid (cell_below FC.out hb)
          replace HB := Lib.hid (HB.out.trans (hb.mono HB.out.size))
          clear hb hr hcg hgl
          refine hK.out _ _ (cellF_at FC.out) (fun hHeld25 => ?_)
          clear hK K
          try simp only [Act.put, List.getElem_toArray, List.getElem_cons_zero, List.getElem_cons_succ, List.setIfInBounds_toArray, List.set_cons_zero, List.set_cons_succ]
          refine wpAnyH_ready (rs := [6]) (by kernel_rfl) (by simp) ?_
          refine AllReadyH.cons rfl (fun K hK => ?_) AllReadyH.nil
          go_simp
          obtain ⟨g4, hg⟩ : ∃ g, g = u25.heap.size := ⟨_, rfl⟩
          obtain ⟨u26, hu⟩ : ∃ X, X = u25.alloc (.cells #[.nilFunc, .pointer none] 79) := ⟨_, rfl⟩
          have hb : Below u25.heap.size u25 u26 := by rw [hu]; exact (Below.refl _ _).alloc (Nat.le_refl _) _
          have HNG : Hid (g4 ≠ g5) := Lib.hid (by obtain ⟨_, z, _, hz⟩ := F7.out; have := heap_lt hz; omega)
          have F6 : Hid (AlF W g4 u26) := Lib.hid ⟨by rw [hg]; exact HB.out.size, _, rfl, by rw [hu, hg]; exact heap_alloc_at _ _ _ rfl⟩
          rw [← hg, ← hu]
          replace F2 := Lib.hid (F2.out.below hb)
          replace F5 := Lib.hid (F5.out.below hb)
          replace F7 := Lib.hid (F7.out.below hb)
          replace FC := Lib.hid (cell_below FC.out hb)
          replace HB := Lib.hid (HB.out.trans (hb.mono HB.out.size))
          clear hb hg hu
          refine hK.out _ _ (cellF_at FC.out) (fun hHeld26 => ?_)
          clear hK K
          try simp only [Act.put, List.getElem_toArray, List.getElem_cons_zero, List.getElem_cons_succ, List.setIfInBounds_toArray, List.set_cons_zero, List.set_cons_succ]
          refine wpAnyH_ready (rs := [8]) (by kernel_rfl) (by simp) ?_
          refine AllReadyH.cons rfl (fun K hK => ?_) AllReadyH.nil
          rw [if_pos (by rfl)]
          obtain ⟨z, hz, hgz⟩ := F6.out.2
          refine wp_store_se (.tmp 4) (.tmp 14) rfl g4 71 #[.pointer (some ⟨q1, 0, none⟩)] b1 z rfl HV14.out hgz hz ?_
          intro u27 hst
          replace F2 := Lib.hid (F2.out.stored hst hgz)
          replace F5 := Lib.hid (F5.out.stored hst hgz)
          replace FC := Lib.hid (cellF_stored FC.out hst hgz)
          replace HB := Lib.hid (hst.below HB.out F6.out.1)
          have P8 := Lib.hid hst.2.2.2.2.1
          replace F7 : Hid (AlF W g5 u27) := Lib.hid (by obtain ⟨p1, z7, p2, p3⟩ := F7.out; exact ⟨p1, z7, p2, (hst.2.2.2.2.2 _ HNG.out.symm).trans p3⟩)
          clear hst hgz hz
          refine hK.out _ _ (cellF_at FC.out) (fun hHeld27 => ?_)
          clear hK K
          try simp only [Act.put, List.getElem_toArray, List.getElem_cons_zero, List.getElem_cons_succ]
          refine wpAnyH_ready (rs := [9]) (by kernel_rfl) (by simp) ?_
          refine AllReadyH.cons rfl (fun K hK => ?_) AllReadyH.nil
          rw [if_pos (by rfl)]
          obtain ⟨z, hz, hgz⟩ := F7.out.2
          refine wp_store_se (.tmp 5) (.tmp 17) rfl g5 58 #[.pointer (some ⟨q2, 0, none⟩)] b2 z rfl HV17.out hgz hz ?_
          intro u28 hst
          replace F2 := Lib.hid (F2.out.stored hst hgz)
          replace F5 := Lib.hid (F5.out.stored hst hgz)
          replace FC := Lib.hid (cellF_stored FC.out hst hgz)
          replace HB := Lib.hid (hst.below HB.out F7.out.1)
          have P9 := Lib.hid hst.2.2.2.2.1
          replace P8 := Lib.hid ((hst.2.2.2.2.2 _ HNG.out).trans P8.out)
          clear hst hgz hz
          refine hK.out _ _ (cellF_at FC.out) (fun hHeld28 => ?_)
          clear hK K
          try simp only [Act.put, List.getElem_toArray, List.getElem_cons_zero, List.getElem_cons_succ]
          refine wpAnyH_done (by kernel_rfl) ?_ _
          exact HJ.out g4 g5 v14 v17 u28 ⟨_, _, _, _, _, _, P8.out, P9.out, F2.out, F5.out, HNL.out, FC.out, HB.out, HNG.out⟩
        refine AllReadyH.cons rfl (fun K hK => ?brn29) ?crn29
        case brn29 =>
          go_simp
          obtain ⟨g4, hg⟩ : ∃ g, g = u24.heap.size := ⟨_, rfl⟩
          obtain ⟨u29, hu⟩ : ∃ X, X = u24.alloc (.cells #[.nilFunc, .pointer none] 79) := ⟨_, rfl⟩
          have hb : Below u24.heap.size u24 u29 := by rw [hu]; exact (Below.refl _ _).alloc (Nat.le_refl _) _
          have HNG : Hid (g4 ≠ g5) := Lib.hid (by obtain ⟨_, z, _, hz⟩ := F7.out; have := heap_lt hz; omega)
          have F6 : Hid (AlF W g4 u29) := Lib.hid ⟨by rw [hg]; exact HB.out.size, _, rfl, by rw [hu, hg]; exact heap_alloc_at _ _ _ rfl⟩
          rw [← hg, ← hu]
          replace F2 := Lib.hid (F2.out.below hb)
          replace F7 := Lib.hid (F7.out.below hb)
          replace FC := Lib.hid (cell_below FC.out hb)
          replace HB := Lib.hid (HB.out.trans (hb.mono HB.out.size))
          clear hb hg hu
          refine hK.out _ _ (cellF_at FC.out) (fun hHeld29 => ?_)
          clear hK K
          try simp only [Act.put, List.getElem_toArray, List.getElem_cons_zero, List.getElem_cons_succ, List.setIfInBounds_toArray, List.set_cons_zero, List.set_cons_succ]
          refine wpAnyH_ready (rs := [5]) (by kernel_rfl) (by simp) ?_
          refine AllReadyH.cons rfl (fun K hK => ?_) AllReadyH.nil
          go_simp
          refine (onward_any (k := k) (HRS.out.below ((HB.out)))).mono ?_
          rintro e u30 ⟨b2, l2, q2, rfl, hr, hcg, hb, hgl⟩
          obtain ⟨v17, hv17⟩ : ∃ v, v = Value.agg #[fnV 58 #[.pointer (some ⟨q2, 0, none⟩)], .pointer (some ⟨b2, 0, none⟩)] := ⟨_, rfl⟩
          rw [← hv17]
          have HV17 := Lib.hid hv17
          clear hv17
          have HNL : Hid (l1 ≠ l2) := Lib.hid (by have := heap_lt F2.out.1.2.1; omega)
          have F5 : Hid (SrF W k.b n S b2 l2 q2 u30) := Lib.hid ⟨hr, hcg, Nat.le_trans HB.out.size hgl⟩
          replace F2 := Lib.hid (F2.out.below hb)
          replace F6 := Lib.hid (F6.out.below hb)
          replace F7 := Lib.hid (F7.out.below hb)
          replace FC := Lib.hid (cell_below FC.out hb)
          replace HB := Lib.hid (HB.out.trans (hb.mono HB.out.size))
          clear hb hr hcg hgl
          refine hK.out _ _ (cellF_at FC.out) (fun hHeld30 => ?_)
          clear hK K
          try simp only [Act.put, List.getElem_toArray, List.getElem_cons_zero, List.getElem_cons_succ, List.setIfInBounds_toArray, List.set_cons_zero, List.set_cons_succ]
          refine wpAnyH_ready (rs := [8]) (by kernel_rfl) (by simp) ?_
          refine AllReadyH.cons rfl (fun K hK => ?_) AllReadyH.nil
          rw [if_pos (by rfl)]
          obtain ⟨z, hz, hgz⟩ := F6.out.2
          refine wp_store_se (.tmp 4) (.tmp 14) rfl g4 71 #[.pointer (some ⟨q1, 0, none⟩)] b1 z rfl HV14.out hgz hz ?_
          intro u31 hst
          replace F2 := Lib.hid (F2.out.stored hst hgz)
          replace F5 := Lib.hid (F5.out.stored hst hgz)
          replace FC := Lib.hid (cellF_stored FC.out hst hgz)
          replace HB := Lib.hid (hst.below HB.out F6.out.1)
          have P8 := Lib.hid hst.2.2.2.2.1
          replace F7 : Hid (AlF W g5 u31) := Lib.hid (by obtain ⟨p1, z7, p2, p3⟩ := F7.out; exact ⟨p1, z7, p2, (hst.2.2.2.2.2 _ HNG.out.symm).trans p3⟩)
          clear hst hgz hz
          refine hK.out _ _ (cellF_at FC.out) (fun hHeld31 => ?_)
          clear hK K
          try simp only [Act.put, List.getElem_toArray, List.getElem_cons_zero, List.getElem_cons_succ]
          refine wpAnyH_ready (rs := [9]) (by kernel_rfl) (by simp) ?_
          refine AllReadyH.cons rfl (fun K hK => ?_) AllReadyH.nil
          rw [if_pos (by rfl)]
          obtain ⟨z, hz, hgz⟩ := F7.out.2
          refine wp_store_se (.tmp 5) (.tmp 17) rfl g5 58 #[.pointer (some ⟨q2, 0, none⟩)] b2 z rfl HV17.out hgz hz ?_
          intro u32 hst
          replace F2 := Lib.hid (F2.out.stored hst hgz)
          replace F5 := Lib.hid (F5.out.stored hst hgz)
          replace FC := Lib.hid (cellF_stored FC.out hst hgz)
          replace HB := Lib.hid (hst.below HB.out F7.out.1)
          have P9 := Lib.hid hst.2.2.2.2.1
          replace P8 := Lib.hid ((hst.2.2.2.2.2 _ HNG.out).trans P8.out)
          clear hst hgz hz
          refine hK.out _ _ (cellF_at FC.out) (fun hHeld32 => ?_)
          clear hK K
          try simp only [Act.put, List.getElem_toArray, List.getElem_cons_zero, List.getElem_cons_succ]
          refine wpAnyH_done (by kernel_rfl) ?_ _
          exact HJ.out g4 g5 v14 v17 u32 ⟨_, _, _, _, _, _, P8.out, P9.out, F2.out, F5.out, HNL.out, FC.out, HB.out, HNG.out⟩
        exact AllReadyH.nil
      exact AllReadyH.nil
    refine AllReadyH.cons rfl (fun K hK => ?brn33) ?crn33
    case brn33 =>
      go_simp
      obtain ⟨g4, hg⟩ : ∃ g, g = U0.heap.size := ⟨_, rfl⟩
      obtain ⟨u33, hu⟩ : ∃ X, X = U0.alloc (.cells #[.nilFunc, .pointer none] 79) := ⟨_, rfl⟩
      have hb : Below U0.heap.size U0 u33 := by rw [hu]; exact (Below.refl _ _).alloc (Nat.le_refl _) _
      have F6 : Hid (AlF W g4 u33) := Lib.hid ⟨by rw [hg]; exact HB.out.size, _, rfl, by rw [hu, hg]; exact heap_alloc_at _ _ _ rfl⟩
      rw [← hg, ← hu]
      replace FC := Lib.hid (cell_below FC.out hb)
      replace HB := Lib.hid (HB.out.trans (hb.mono HB.out.size))
      clear hb hg hu
      refine hK.out _ _ (cellF_at FC.out) (fun hHeld33 => ?_)
      clear hK K
      try simp only [Act.put, List.getElem_toArray, List.getElem_cons_zero, List.getElem_cons_succ, List.setIfInBounds_toArray, List.set_cons_zero, List.set_cons_succ]
      refine wpAnyH_ready (rs := [2, 7]) (by kernel_rfl) (by simp) ?_
      refine AllReadyH.cons rfl (fun K hK => ?brn34) ?crn34
      case brn34 =>
        go_simp
        refine (backward_any (k := k) (HRS.out.below ((HB.out)))).mono ?_
        rintro e u34 ⟨b1, l1, q1, rfl, hr, hcg, hb, hgl⟩
        obtain ⟨v14, hv14⟩ : ∃ v, v = Value.agg #[fnV 71 #[.pointer (some ⟨q1, 0, none⟩)], .pointer (some ⟨b1, 0, none⟩)] := ⟨_, rfl⟩
        rw [← hv14]
        have HV14 := Lib.hid hv14
        clear hv14
        have F2 : Hid (SrF W k.b n S b1 l1 q1 u34) := Lib.hid ⟨hr, hcg, Nat.le_trans HB.out.size hgl⟩
        replace F6 := Lib.hid (F6.out.below hb)
        replace FC := Lib.hid (cell_below FC.out hb)
        replace HB := Lib.hid (HB.out.trans (hb.mono HB.out.size))
        clear hb hr hcg hgl
        refine hK.out _ _ (cellF_at FC.out) (fun hHeld34 => ?_)
        clear hK K
        try simp only [Act.put, List.getElem_toArray, List.getElem_cons_zero, List.getElem_cons_succ, List.setIfInBounds_toArray, List.set_cons_zero, List.set_cons_succ]
        refine wpAnyH_ready (rs := [5, 7]) (by kernel_rfl) (by simp) ?_
        refine AllReadyH.cons rfl (fun K hK => ?brn35) ?crn35
        case brn35 =>
          go_simp
          refine (onward_any (k := k) (HRS.out.below ((HB.out)))).mono ?_
          rintro e u35 ⟨b2, l2, q2, rfl, hr, hcg, hb, hgl⟩
          obtain ⟨v17, hv17⟩ : ∃ v, v = Value.agg #[fnV 58 #[.pointer (some ⟨q2, 0, none⟩)], .pointer (some ⟨b2, 0, none⟩)] := ⟨_, rfl⟩
          rw [← hv17]
          have HV17 := Lib.hid hv17
          clear hv17
          have HNL : Hid (l1 ≠ l2) := Lib.hid (by have := heap_lt F2.out.1.2.1; omega)
          have F5 : Hid (SrF W k.b n S b2 l2 q2 u35) := Lib.hid ⟨hr, hcg, Nat.le_trans HB.out.size hgl⟩
          replace F2 := Lib.hid (F2.out.below hb)
          replace F6 := Lib.hid (F6.out.below hb)
          replace FC := Lib.hid (cell_below FC.out hb)
          replace HB := Lib.hid (HB.out.trans (hb.mono HB.out.size))
          clear hb hr hcg hgl
          refine hK.out _ _ (cellF_at FC.out) (fun hHeld35 => ?_)
          clear hK K
          try simp only [Act.put, List.getElem_toArray, List.getElem_cons_zero, List.getElem_cons_succ, List.setIfInBounds_toArray, List.set_cons_zero, List.set_cons_succ]
          refine wpAnyH_ready (rs := [7]) (by kernel_rfl) (by simp) ?_
          refine AllReadyH.cons rfl (fun K hK => ?_) AllReadyH.nil
          go_simp
          obtain ⟨g5, hg⟩ : ∃ g, g = u35.heap.size := ⟨_, rfl⟩
          obtain ⟨u36, hu⟩ : ∃ X, X = u35.alloc (.cells #[.nilFunc, .pointer none] 79) := ⟨_, rfl⟩
          have hb : Below u35.heap.size u35 u36 := by rw [hu]; exact (Below.refl _ _).alloc (Nat.le_refl _) _
          have HNG : Hid (g4 ≠ g5) := Lib.hid (by obtain ⟨_, z, _, hz⟩ := F6.out; have := heap_lt hz; omega)
          have F7 : Hid (AlF W g5 u36) := Lib.hid ⟨by rw [hg]; exact HB.out.size, _, rfl, by rw [hu, hg]; exact heap_alloc_at _ _ _ rfl⟩
          rw [← hg, ← hu]
          replace F2 := Lib.hid (F2.out.below hb)
          replace F5 := Lib.hid (F5.out.below hb)
          replace F6 := Lib.hid (F6.out.below hb)
          replace FC := Lib.hid (cell_below FC.out hb)
          replace HB := Lib.hid (HB.out.trans (hb.mono HB.out.size))
          clear hb hg hu
          refine hK.out _ _ (cellF_at FC.out) (fun hHeld36 => ?_)
          clear hK K
          try simp only [Act.put, List.getElem_toArray, List.getElem_cons_zero, List.getElem_cons_succ, List.setIfInBounds_toArray, List.set_cons_zero, List.set_cons_succ]
          refine wpAnyH_ready (rs := [8]) (by kernel_rfl) (by simp) ?_
          refine AllReadyH.cons rfl (fun K hK => ?_) AllReadyH.nil
          rw [if_pos (by rfl)]
          obtain ⟨z, hz, hgz⟩ := F6.out.2
          refine wp_store_se (.tmp 4) (.tmp 14) rfl g4 71 #[.pointer (some ⟨q1, 0, none⟩)] b1 z rfl HV14.out hgz hz ?_
          intro u37 hst
          replace F2 := Lib.hid (F2.out.stored hst hgz)
          replace F5 := Lib.hid (F5.out.stored hst hgz)
          replace FC := Lib.hid (cellF_stored FC.out hst hgz)
          replace HB := Lib.hid (hst.below HB.out F6.out.1)
          have P8 := Lib.hid hst.2.2.2.2.1
          replace F7 : Hid (AlF W g5 u37) := Lib.hid (by obtain ⟨p1, z7, p2, p3⟩ := F7.out; exact ⟨p1, z7, p2, (hst.2.2.2.2.2 _ HNG.out.symm).trans p3⟩)
          clear hst hgz hz
          refine hK.out _ _ (cellF_at FC.out) (fun hHeld37 => ?_)
          clear hK K
          try simp only [Act.put, List.getElem_toArray, List.getElem_cons_zero, List.getElem_cons_succ]
          refine wpAnyH_ready (rs := [9]) (by kernel_rfl) (by simp) ?_
          refine AllReadyH.cons rfl (fun K hK => ?_) AllReadyH.nil
          rw [if_pos (by rfl)]
          obtain ⟨z, hz, hgz⟩ := F7.out.2
          refine wp_store_se (.tmp 5) (.tmp 17) rfl g5 58 #[.pointer (some ⟨q2, 0, none⟩)] b2 z rfl HV17.out hgz hz ?_
          intro u38 hst
          replace F2 := Lib.hid (F2.out.stored hst hgz)
          replace F5 := Lib.hid (F5.out.stored hst hgz)
          replace FC := Lib.hid (cellF_stored FC.out hst hgz)
          replace HB := Lib.hid (hst.below HB.out F7.out.1)
          have P9 := Lib.hid hst.2.2.2.2.1
          replace P8 := Lib.hid ((hst.2.2.2.2.2 _ HNG.out).trans P8.out)
          clear hst hgz hz
          refine hK.out _ _ (cellF_at FC.out) (fun hHeld38 => ?_)
          clear hK K
          try simp only [Act.put, List.getElem_toArray, List.getElem_cons_zero, List.getElem_cons_succ]
          refine wpAnyH_done (by kernel_rfl) ?_ _
          exact HJ.out g4 g5 v14 v17 u38 ⟨_, _, _, _, _, _, P8.out, P9.out, F2.out, F5.out, HNL.out, FC.out, HB.out, HNG.out⟩
        refine AllReadyH.cons rfl (fun K hK => ?brn39) ?crn39
        case brn39 =>
          go_simp
          obtain ⟨g5, hg⟩ : ∃ g, g = u34.heap.size := ⟨_, rfl⟩
          obtain ⟨u39, hu⟩ : ∃ X, X = u34.alloc (.cells #[.nilFunc, .pointer none] 79) := ⟨_, rfl⟩
          have hb : Below u34.heap.size u34 u39 := by rw [hu]; exact (Below.refl _ _).alloc (Nat.le_refl _) _
          have HNG : Hid (g4 ≠ g5) := Lib.hid (by obtain ⟨_, z, _, hz⟩ := F6.out; have := heap_lt hz; omega)
          have F7 : Hid (AlF W g5 u39) := Lib.hid ⟨by rw [hg]; exact HB.out.size, _, rfl, by rw [hu, hg]; exact heap_alloc_at _ _ _ rfl⟩
          rw [← hg, ← hu]
          replace F2 := Lib.hid (F2.out.below hb)
          replace F6 := Lib.hid (F6.out.below hb)
          replace FC := Lib.hid (cell_below FC.out hb)
          replace HB := Lib.hid (HB.out.trans (hb.mono HB.out.size))
          clear hb hg hu
          refine hK.out _ _ (cellF_at FC.out) (fun hHeld39 => ?_)
          clear hK K
          try simp only [Act.put, List.getElem_toArray, List.getElem_cons_zero, List.getElem_cons_succ, List.setIfInBounds_toArray, List.set_cons_zero, List.set_cons_succ]
          refine wpAnyH_ready (rs := [5]) (by kernel_rfl) (by simp) ?_
          refine AllReadyH.cons rfl (fun K hK => ?_) AllReadyH.nil
          go_simp
          refine (onward_any (k := k) (HRS.out.below ((HB.out)))).mono ?_
          rintro e u40 ⟨b2, l2, q2, rfl, hr, hcg, hb, hgl⟩
          obtain ⟨v17, hv17⟩ : ∃ v, v = Value.agg #[fnV 58 #[.pointer (some ⟨q2, 0, none⟩)], .pointer (some ⟨b2, 0, none⟩)] := ⟨_, rfl⟩
          rw [← hv17]
          have HV17 := Lib.hid hv17
          clear hv17
          have HNL : Hid (l1 ≠ l2) := Lib.hid (by have := heap_lt F2.out.1.2.1; omega)
          have F5 : Hid (SrF W k.b n S b2 l2 q2 u40) := Lib.hid ⟨hr, hcg, Nat.le_trans HB.out.size hgl⟩
          replace F2 := Lib.hid (F2.out.below hb)
          replace F6 := Lib.hid (F6.out.below hb)
          replace F7 := Lib.hid (F7.out.below hb)
          replace FC := Lib.hid (cell_below FC.out hb)
          replace HB := Lib.hid (HB.out.trans (hb.mono HB.out.size))
          clear hb hr hcg hgl
          refine hK.out _ _ (cellF_at FC.out) (fun hHeld40 => ?_)
          clear hK K
          try simp only [Act.put, List.getElem_toArray, List.getElem_cons_zero, List.getElem_cons_succ, List.setIfInBounds_toArray, List.set_cons_zero, List.set_cons_succ]
          refine wpAnyH_ready (rs := [8]) (by kernel_rfl) (by simp) ?_
          refine AllReadyH.cons rfl (fun K hK => ?_) AllReadyH.nil
          rw [if_pos (by rfl)]
          obtain ⟨z, hz, hgz⟩ := F6.out.2
          refine wp_store_se (.tmp 4) (.tmp 14) rfl g4 71 #[.pointer (some ⟨q1, 0, none⟩)] b1 z rfl HV14.out hgz hz ?_
          intro u41 hst
          replace F2 := Lib.hid (F2.out.stored hst hgz)
          replace F5 := Lib.hid (F5.out.stored hst hgz)
          replace FC := Lib.hid (cellF_stored FC.out hst hgz)
          replace HB := Lib.hid (hst.below HB.out F6.out.1)
          have P8 := Lib.hid hst.2.2.2.2.1
          replace F7 : Hid (AlF W g5 u41) := Lib.hid (by obtain ⟨p1, z7, p2, p3⟩ := F7.out; exact ⟨p1, z7, p2, (hst.2.2.2.2.2 _ HNG.out.symm).trans p3⟩)
          clear hst hgz hz
          refine hK.out _ _ (cellF_at FC.out) (fun hHeld41 => ?_)
          clear hK K
          try simp only [Act.put, List.getElem_toArray, List.getElem_cons_zero, List.getElem_cons_succ]
          refine wpAnyH_ready (rs := [9]) (by kernel_rfl) (by simp) ?_
          refine AllReadyH.cons rfl (fun K hK => ?_) AllReadyH.nil
          rw [if_pos (by rfl)]
          obtain ⟨z, hz, hgz⟩ := F7.out.2
          refine wp_store_se (.tmp 5) (.tmp 17) rfl g5 58 #[.pointer (some ⟨q2, 0, none⟩)] b2 z rfl HV17.out hgz hz ?_
          intro u42 hst
          replace F2 := Lib.hid (F2.out.stored hst hgz)
          replace F5 := Lib.hid (F5.out.stored hst hgz)
          replace FC := Lib.hid (cellF_stored FC.out hst hgz)
          replace HB := Lib.hid (hst.below HB.out F7.out.1)
          have P9 := Lib.hid hst.2.2.2.2.1
          replace P8 := Lib.hid ((hst.2.2.2.2.2 _ HNG.out).trans P8.out)
          clear hst hgz hz
          refine hK.out _ _ (cellF_at FC.out) (fun hHeld42 => ?_)
          clear hK K
          try simp only [Act.put, List.getElem_toArray, List.getElem_cons_zero, List.getElem_cons_succ]
          refine wpAnyH_done (by kernel_rfl) ?_ _
          exact HJ.out g4 g5 v14 v17 u42 ⟨_, _, _, _, _, _, P8.out, P9.out, F2.out, F5.out, HNL.out, FC.out, HB.out, HNG.out⟩
        exact AllReadyH.nil
      refine AllReadyH.cons rfl (fun K hK => ?brn43) ?crn43
      case brn43 =>
        go_simp
        obtain ⟨g5, hg⟩ : ∃ g, g = u33.heap.size := ⟨_, rfl⟩
        obtain ⟨u43, hu⟩ : ∃ X, X = u33.alloc (.cells #[.nilFunc, .pointer none] 79) := ⟨_, rfl⟩
        have hb : Below u33.heap.size u33 u43 := by rw [hu]; exact (Below.refl _ _).alloc (Nat.le_refl _) _
        have HNG : Hid (g4 ≠ g5) := Lib.hid (by obtain ⟨_, z, _, hz⟩ := F6.out; have := heap_lt hz; omega)
        have F7 : Hid (AlF W g5 u43) := Lib.hid ⟨by rw [hg]; exact HB.out.size, _, rfl, by rw [hu, hg]; exact heap_alloc_at _ _ _ rfl⟩
        rw [← hg, ← hu]
        replace F6 := Lib.hid (F6.out.below hb)
        replace FC := Lib.hid (cell_below FC.out hb)
        replace HB := Lib.hid (HB.out.trans (hb.mono HB.out.size))
        clear hb hg hu
        refine hK.out _ _ (cellF_at FC.out) (fun hHeld43 => ?_)
        clear hK K
        try simp only [Act.put, List.getElem_toArray, List.getElem_cons_zero, List.getElem_cons_succ, List.setIfInBounds_toArray, List.set_cons_zero, List.set_cons_succ]
        refine wpAnyH_ready (rs := [2]) (by kernel_rfl) (by simp) ?_
        refine AllReadyH.cons rfl (fun K hK => ?_) AllReadyH.nil
        go_simp
        refine (backward_any (k := k) (HRS.out.below ((HB.out)))).mono ?_
        rintro e u44 ⟨b1, l1, q1, rfl, hr, hcg, hb, hgl⟩
        obtain ⟨v14, hv14⟩ : ∃ v, v = Value.agg #[fnV 71 #[.pointer (some ⟨q1, 0, none⟩)], .pointer (some ⟨b1, 0, none⟩)] := ⟨_, rfl⟩
        rw [← hv14]
        have HV14 := Lib.hid hv14
        clear hv14
        have F2 : Hid (SrF W k.b n S b1 l1 q1 u44) := Lib.hid ⟨hr, hcg, Nat.le_trans HB.out.size hgl⟩
        replace F6 := Lib.hid (F6.out.below hb)
        replace F7 := Lib.hid (F7.out.below hb)
        replace FC := Lib.hid (cell_below FC.out hb)
        replace HB := Lib.hid (HB.out.trans (hb.mono HB.out.size))
        clear hb hr hcg hgl
        refine hK.out _ _ (cellF_at FC.out) (fun hHeld44 => ?_)
        clear hK K
        try simp only [Act.put, List.getElem_toArray, List.getElem_cons_zero, List.getElem_cons_succ, List.setIfInBounds_toArray, List.set_cons_zero, List.set_cons_succ]
        refine wpAnyH_ready (rs := [5]) (by kernel_rfl) (by simp) ?_
        refine AllReadyH.cons rfl (fun K hK => ?_) AllReadyH.nil
        go_simp
        refine (onward_any (k := k) (HRS.out.below ((HB.out)))).mono ?_
        rintro e u45 ⟨b2, l2, q2, rfl, hr, hcg, hb, hgl⟩
        obtain ⟨v17, hv17⟩ : ∃ v, v = Value.agg #[fnV 58 #[.pointer (some ⟨q2, 0, none⟩)], .pointer (some ⟨b2, 0, none⟩)] := ⟨_, rfl⟩
        rw [← hv17]
        have HV17 := Lib.hid hv17
        clear hv17
        have HNL : Hid (l1 ≠ l2) := Lib.hid (by have := heap_lt F2.out.1.2.1; omega)
        have F5 : Hid (SrF W k.b n S b2 l2 q2 u45) := Lib.hid ⟨hr, hcg, Nat.le_trans HB.out.size hgl⟩
        replace F2 := Lib.hid (F2.out.below hb)
        replace F6 := Lib.hid (F6.out.below hb)
        replace F7 := Lib.hid (F7.out.below hb)
        replace FC := Lib.hid (cell_below FC.out hb)
        replace HB := Lib.hid (HB.out.trans (hb.mono HB.out.size))
        clear hb hr hcg hgl
        refine hK.out _ _ (cellF_at FC.out) (fun hHeld45 => ?_)
        clear hK K
        try simp only [Act.put, List.getElem_toArray, List.getElem_cons_zero, List.getElem_cons_succ, List.setIfInBounds_toArray, List.set_cons_zero, List.set_cons_succ]
        refine wpAnyH_ready (rs := [8]) (by kernel_rfl) (by simp) ?_
        refine AllReadyH.cons rfl (fun K hK => ?_) AllReadyH.nil
        rw [if_pos (by rfl)]
        obtain ⟨z, hz, hgz⟩ := F6.out.2
        refine wp_store_se (.tmp 4) (.tmp 14) rfl g4 71 #[.pointer (some ⟨q1, 0, none⟩)] b1 z rfl HV14.out hgz hz ?_
        intro u46 hst
        replace F2 := Lib.hid (F2.out.stored hst hgz)
        replace F5 := Lib.hid (F5.out.stored hst hgz)
        replace FC := Lib.hid (cellF_stored FC.out hst hgz)
        replace HB := Lib.hid (hst.below HB.out F6.out.1)
        have P8 := Lib.hid hst.2.2.2.2.1
        replace F7 : Hid (AlF W g5 u46) := Lib.hid (by obtain ⟨p1, z7, p2, p3⟩ := F7.out; exact ⟨p1, z7, p2, (hst.2.2.2.2.2 _ HNG.out.symm).trans p3⟩)
        clear hst hgz hz
        refine hK.out _ _ (cellF_at FC.out) (fun hHeld46 => ?_)
        clear hK K
        try simp only [Act.put, List.getElem_toArray, List.getElem_cons_zero, List.getElem_cons_succ]
        refine wpAnyH_ready (rs := [9]) (by kernel_rfl) (by simp) ?_
        refine AllReadyH.cons rfl (fun K hK => ?_) AllReadyH.nil
        rw [if_pos (by rfl)]
        obtain ⟨z, hz, hgz⟩ := F7.out.2
        refine wp_store_se (.tmp 5) (.tmp 17) rfl g5 58 #[.pointer (some ⟨q2, 0, none⟩)] b2 z rfl HV17.out hgz hz ?_
        intro u47 hst
        replace F2 := Lib.hid (F2.out.stored hst hgz)
        replace F5 := Lib.hid (F5.out.stored hst hgz)
        replace FC := Lib.hid (cellF_stored FC.out hst hgz)
        replace HB := Lib.hid (hst.below HB.out F7.out.1)
        have P9 := Lib.hid hst.2.2.2.2.1
        replace P8 := Lib.hid ((hst.2.2.2.2.2 _ HNG.out).trans P8.out)
        clear hst hgz hz
        refine hK.out _ _ (cellF_at FC.out) (fun hHeld47 => ?_)
        clear hK K
        try simp only [Act.put, List.getElem_toArray, List.getElem_cons_zero, List.getElem_cons_succ]
        refine wpAnyH_done (by kernel_rfl) ?_ _
        exact HJ.out g4 g5 v14 v17 u47 ⟨_, _, _, _, _, _, P8.out, P9.out, F2.out, F5.out, HNL.out, FC.out, HB.out, HNG.out⟩
      exact AllReadyH.nil
    refine AllReadyH.cons rfl (fun K hK => ?brn48) ?crn48
    case brn48 =>
      go_simp
      obtain ⟨g5, hg⟩ : ∃ g, g = U0.heap.size := ⟨_, rfl⟩
      obtain ⟨u48, hu⟩ : ∃ X, X = U0.alloc (.cells #[.nilFunc, .pointer none] 79) := ⟨_, rfl⟩
      have hb : Below U0.heap.size U0 u48 := by rw [hu]; exact (Below.refl _ _).alloc (Nat.le_refl _) _
      have F7 : Hid (AlF W g5 u48) := Lib.hid ⟨by rw [hg]; exact HB.out.size, _, rfl, by rw [hu, hg]; exact heap_alloc_at _ _ _ rfl⟩
      rw [← hg, ← hu]
      replace FC := Lib.hid (cell_below FC.out hb)
      replace HB := Lib.hid (HB.out.trans (hb.mono HB.out.size))
      clear hb hg hu
      refine hK.out _ _ (cellF_at FC.out) (fun hHeld48 => ?_)
      clear hK K
      try simp only [Act.put, List.getElem_toArray, List.getElem_cons_zero, List.getElem_cons_succ, List.setIfInBounds_toArray, List.set_cons_zero, List.set_cons_succ]
      refine wpAnyH_ready (rs := [2, 6]) (by kernel_rfl) (by simp) ?_
      refine AllReadyH.cons rfl (fun K hK => ?brn49) ?crn49
      case brn49 =>
        go_simp
        refine (backward_any (k := k) (HRS.out.below ((HB.out)))).mono ?_
        rintro e u49 ⟨b1, l1, q1, rfl, hr, hcg, hb, hgl⟩
        obtain ⟨v14, hv14⟩ : ∃ v, v = Value.agg #[fnV 71 #[.pointer (some ⟨q1, 0, none⟩)], .pointer (some ⟨b1, 0, none⟩)] := ⟨_, rfl⟩
        rw [← hv14]
        have HV14 := Lib.hid hv14
        clear hv14
        have F2 : Hid (SrF W k.b n S b1 l1 q1 u49) := Lib.hid ⟨hr, hcg, Nat.le_trans HB.out.size hgl⟩
        replace F7 := Lib.hid (F7.out.below hb)
        replace FC := Lib.hid (cell_below FC.out hb)
        replace HB := Lib.hid (HB.out.trans (hb.mono HB.out.size))
        clear hb hr hcg hgl
        refine hK.out _ _ (cellF_at FC.out) (fun hHeld49 => ?_)
        clear hK K
        try simp only [Act.put, List.getElem_toArray, List.getElem_cons_zero, List.getElem_cons_succ, List.setIfInBounds_toArray, List.set_cons_zero, List.set_cons_succ]
        refine wpAnyH_ready (rs := [5, 6]) (by kernel_rfl) (by simp) ?_
        refine AllReadyH.cons rfl (fun K hK => ?brn50) ?crn50
        case brn50 =>
          go_simp
          refine (onward_any (k := k) (HRS.out.below ((HB.out)))).mono ?_
          rintro e u50 ⟨b2, l2, q2, rfl, hr, hcg, hb, hgl⟩
          obtain ⟨v17, hv17⟩ : ∃ v, v = Value.agg #[fnV 58 #[.pointer (some ⟨q2, 0, none⟩)], .pointer (some ⟨b2, 0, none⟩)] := ⟨_, rfl⟩
          rw [← hv17]
          have HV17 := Lib.hid hv17
          clear hv17
          have HNL : Hid (l1 ≠ l2) := Lib.hid (by have := heap_lt F2.out.1.2.1; omega)
          have F5 : Hid (SrF W k.b n S b2 l2 q2 u50) := Lib.hid ⟨hr, hcg, Nat.le_trans HB.out.size hgl⟩
          replace F2 := Lib.hid (F2.out.below hb)
          replace F7 := Lib.hid (F7.out.below hb)
          replace FC := Lib.hid (cell_below FC.out hb)
          replace HB := Lib.hid (HB.out.trans (hb.mono HB.out.size))
          clear hb hr hcg hgl
          refine hK.out _ _ (cellF_at FC.out) (fun hHeld50 => ?_)
          clear hK K
          try simp only [Act.put, List.getElem_toArray, List.getElem_cons_zero, List.getElem_cons_succ, List.setIfInBounds_toArray, List.set_cons_zero, List.set_cons_succ]
          refine wpAnyH_ready (rs := [6]) (by kernel_rfl) (by simp) ?_
          refine AllReadyH.cons rfl (fun K hK => ?_) AllReadyH.nil
          go_simp
          obtain ⟨g4, hg⟩ : ∃ g, g = u50.heap.size := ⟨_, rfl⟩
          obtain ⟨u51, hu⟩ : ∃ X, X = u50.alloc (.cells #[.nilFunc, .pointer none] 79) := ⟨_, rfl⟩
          have hb : Below u50.heap.size u50 u51 := by rw [hu]; exact (Below.refl _ _).alloc (Nat.le_refl _) _
          have HNG : Hid (g4 ≠ g5) := Lib.hid (by obtain ⟨_, z, _, hz⟩ := F7.out; have := heap_lt hz; omega)
          have F6 : Hid (AlF W g4 u51) := Lib.hid ⟨by rw [hg]; exact HB.out.size, _, rfl, by rw [hu, hg]; exact heap_alloc_at _ _ _ rfl⟩
          rw [← hg, ← hu]
          replace F2 := Lib.hid (F2.out.below hb)
          replace F5 := Lib.hid (F5.out.below hb)
          replace F7 := Lib.hid (F7.out.below hb)
          replace FC := Lib.hid (cell_below FC.out hb)
          replace HB := Lib.hid (HB.out.trans (hb.mono HB.out.size))
          clear hb hg hu
          refine hK.out _ _ (cellF_at FC.out) (fun hHeld51 => ?_)
          clear hK K
          try simp only [Act.put, List.getElem_toArray, List.getElem_cons_zero, List.getElem_cons_succ, List.setIfInBounds_toArray, List.set_cons_zero, List.set_cons_succ]
          refine wpAnyH_ready (rs := [8]) (by kernel_rfl) (by simp) ?_
          refine AllReadyH.cons rfl (fun K hK => ?_) AllReadyH.nil
          rw [if_pos (by rfl)]
          obtain ⟨z, hz, hgz⟩ := F6.out.2
          refine wp_store_se (.tmp 4) (.tmp 14) rfl g4 71 #[.pointer (some ⟨q1, 0, none⟩)] b1 z rfl HV14.out hgz hz ?_
          intro u52 hst
          replace F2 := Lib.hid (F2.out.stored hst hgz)
          replace F5 := Lib.hid (F5.out.stored hst hgz)
          replace FC := Lib.hid (cellF_stored FC.out hst hgz)
          replace HB := Lib.hid (hst.below HB.out F6.out.1)
          have P8 := Lib.hid hst.2.2.2.2.1
          replace F7 : Hid (AlF W g5 u52) := Lib.hid (by obtain ⟨p1, z7, p2, p3⟩ := F7.out; exact ⟨p1, z7, p2, (hst.2.2.2.2.2 _ HNG.out.symm).trans p3⟩)
          clear hst hgz hz
          refine hK.out _ _ (cellF_at FC.out) (fun hHeld52 => ?_)
          clear hK K
          try simp only [Act.put, List.getElem_toArray, List.getElem_cons_zero, List.getElem_cons_succ]
          refine wpAnyH_ready (rs := [9]) (by kernel_rfl) (by simp) ?_
          refine AllReadyH.cons rfl (fun K hK => ?_) AllReadyH.nil
          rw [if_pos (by rfl)]
          obtain ⟨z, hz, hgz⟩ := F7.out.2
          refine wp_store_se (.tmp 5) (.tmp 17) rfl g5 58 #[.pointer (some ⟨q2, 0, none⟩)] b2 z rfl HV17.out hgz hz ?_
          intro u53 hst
          replace F2 := Lib.hid (F2.out.stored hst hgz)
          replace F5 := Lib.hid (F5.out.stored hst hgz)
          replace FC := Lib.hid (cellF_stored FC.out hst hgz)
          replace HB := Lib.hid (hst.below HB.out F7.out.1)
          have P9 := Lib.hid hst.2.2.2.2.1
          replace P8 := Lib.hid ((hst.2.2.2.2.2 _ HNG.out).trans P8.out)
          clear hst hgz hz
          refine hK.out _ _ (cellF_at FC.out) (fun hHeld53 => ?_)
          clear hK K
          try simp only [Act.put, List.getElem_toArray, List.getElem_cons_zero, List.getElem_cons_succ]
          refine wpAnyH_done (by kernel_rfl) ?_ _
          exact HJ.out g4 g5 v14 v17 u53 ⟨_, _, _, _, _, _, P8.out, P9.out, F2.out, F5.out, HNL.out, FC.out, HB.out, HNG.out⟩
        refine AllReadyH.cons rfl (fun K hK => ?brn54) ?crn54
        case brn54 =>
          go_simp
          obtain ⟨g4, hg⟩ : ∃ g, g = u49.heap.size := ⟨_, rfl⟩
          obtain ⟨u54, hu⟩ : ∃ X, X = u49.alloc (.cells #[.nilFunc, .pointer none] 79) := ⟨_, rfl⟩
          have hb : Below u49.heap.size u49 u54 := by rw [hu]; exact (Below.refl _ _).alloc (Nat.le_refl _) _
          have HNG : Hid (g4 ≠ g5) := Lib.hid (by obtain ⟨_, z, _, hz⟩ := F7.out; have := heap_lt hz; omega)
          have F6 : Hid (AlF W g4 u54) := Lib.hid ⟨by rw [hg]; exact HB.out.size, _, rfl, by rw [hu, hg]; exact heap_alloc_at _ _ _ rfl⟩
          rw [← hg, ← hu]
          replace F2 := Lib.hid (F2.out.below hb)
          replace F7 := Lib.hid (F7.out.below hb)
          replace FC := Lib.hid (cell_below FC.out hb)
          replace HB := Lib.hid (HB.out.trans (hb.mono HB.out.size))
          clear hb hg hu
          refine hK.out _ _ (cellF_at FC.out) (fun hHeld54 => ?_)
          clear hK K
          try simp only [Act.put, List.getElem_toArray, List.getElem_cons_zero, List.getElem_cons_succ, List.setIfInBounds_toArray, List.set_cons_zero, List.set_cons_succ]
          refine wpAnyH_ready (rs := [5]) (by kernel_rfl) (by simp) ?_
          refine AllReadyH.cons rfl (fun K hK => ?_) AllReadyH.nil
          go_simp
          refine (onward_any (k := k) (HRS.out.below ((HB.out)))).mono ?_
          rintro e u55 ⟨b2, l2, q2, rfl, hr, hcg, hb, hgl⟩
          obtain ⟨v17, hv17⟩ : ∃ v, v = Value.agg #[fnV 58 #[.pointer (some ⟨q2, 0, none⟩)], .pointer (some ⟨b2, 0, none⟩)] := ⟨_, rfl⟩
          rw [← hv17]
          have HV17 := Lib.hid hv17
          clear hv17
          have HNL : Hid (l1 ≠ l2) := Lib.hid (by have := heap_lt F2.out.1.2.1; omega)
          have F5 : Hid (SrF W k.b n S b2 l2 q2 u55) := Lib.hid ⟨hr, hcg, Nat.le_trans HB.out.size hgl⟩
          replace F2 := Lib.hid (F2.out.below hb)
          replace F6 := Lib.hid (F6.out.below hb)
          replace F7 := Lib.hid (F7.out.below hb)
          replace FC := Lib.hid (cell_below FC.out hb)
          replace HB := Lib.hid (HB.out.trans (hb.mono HB.out.size))
          clear hb hr hcg hgl
          refine hK.out _ _ (cellF_at FC.out) (fun hHeld55 => ?_)
          clear hK K
          try simp only [Act.put, List.getElem_toArray, List.getElem_cons_zero, List.getElem_cons_succ, List.setIfInBounds_toArray, List.set_cons_zero, List.set_cons_succ]
          refine wpAnyH_ready (rs := [8]) (by kernel_rfl) (by simp) ?_
          refine AllReadyH.cons rfl (fun K hK => ?_) AllReadyH.nil
          rw [if_pos (by rfl)]
          obtain ⟨z, hz, hgz⟩ := F6.out.2
          refine wp_store_se (.tmp 4) (.tmp 14) rfl g4 71 #[.pointer (some ⟨q1, 0, none⟩)] b1 z rfl HV14.out hgz hz ?_
          intro u56 hst
          replace F2 := Lib.hid (F2.out.stored hst hgz)
          replace F5 := Lib.hid (F5.out.stored hst hgz)
          replace FC := Lib.hid (cellF_stored FC.out hst hgz)
          replace HB := Lib.hid (hst.below HB.out F6.out.1)
          have P8 := Lib.hid hst.2.2.2.2.1
          replace F7 : Hid (AlF W g5 u56) := Lib.hid (by obtain ⟨p1, z7, p2, p3⟩ := F7.out; exact ⟨p1, z7, p2, (hst.2.2.2.2.2 _ HNG.out.symm).trans p3⟩)
          clear hst hgz hz
          refine hK.out _ _ (cellF_at FC.out) (fun hHeld56 => ?_)
          clear hK K
          try simp only [Act.put, List.getElem_toArray, List.getElem_cons_zero, List.getElem_cons_succ]
          refine wpAnyH_ready (rs := [9]) (by kernel_rfl) (by simp) ?_
          refine AllReadyH.cons rfl (fun K hK => ?_) AllReadyH.nil
          rw [if_pos (by rfl)]
          obtain ⟨z, hz, hgz⟩ := F7.out.2
          refine wp_store_se (.tmp 5) (.tmp 17) rfl g5 58 #[.pointer (some ⟨q2, 0, none⟩)] b2 z rfl HV17.out hgz hz ?_
          intro u57 hst
          replace F2 := Lib.hid (F2.out.stored hst hgz)
          replace F5 := Lib.hid (F5.out.stored hst hgz)
          replace FC := Lib.hid (cellF_stored FC.out hst hgz)
          replace HB := Lib.hid (hst.below HB.out F7.out.1)
          have P9 := Lib.hid hst.2.2.2.2.1
          replace P8 := Lib.hid ((hst.2.2.2.2.2 _ HNG.out).trans P8.out)
          clear hst hgz hz
          refine hK.out _ _ (cellF_at FC.out) (fun hHeld57 => ?_)
          clear hK K
          try simp only [Act.put, List.getElem_toArray, List.getElem_cons_zero, List.getElem_cons_succ]
          refine wpAnyH_done (by kernel_rfl) ?_ _
          exact HJ.out g4 g5 v14 v17 u57 ⟨_, _, _, _, _, _, P8.out, P9.out, F2.out, F5.out, HNL.out, FC.out, HB.out, HNG.out⟩
        exact AllReadyH.nil
      refine AllReadyH.cons rfl (fun K hK => ?brn58) ?crn58
      case brn58 =>
        go_simp
        obtain ⟨g4, hg⟩ : ∃ g, g = u48.heap.size := ⟨_, rfl⟩
        obtain ⟨u58, hu⟩ : ∃ X, X = u48.alloc (.cells #[.nilFunc, .pointer none] 79) := ⟨_, rfl⟩
        have hb : Below u48.heap.size u48 u58 := by rw [hu]; exact (Below.refl _ _).alloc (Nat.le_refl _) _
        have HNG : Hid (g4 ≠ g5) := Lib.hid (by obtain ⟨_, z, _, hz⟩ := F7.out; have := heap_lt hz; omega)
        have F6 : Hid (AlF W g4 u58) := Lib.hid ⟨by rw [hg]; exact HB.out.size, _, rfl, by rw [hu, hg]; exact heap_alloc_at _ _ _ rfl⟩
        rw [← hg, ← hu]
        replace F7 := Lib.hid (F7.out.below hb)
        replace FC := Lib.hid (cell_below FC.out hb)
        replace HB := Lib.hid (HB.out.trans (hb.mono HB.out.size))
        clear hb hg hu
        refine hK.out _ _ (cellF_at FC.out) (fun hHeld58 => ?_)
        clear hK K
        try simp only [Act.put, List.getElem_toArray, List.getElem_cons_zero, List.getElem_cons_succ, List.setIfInBounds_toArray, List.set_cons_zero, List.set_cons_succ]
        refine wpAnyH_ready (rs := [2]) (by kernel_rfl) (by simp) ?_
        refine AllReadyH.cons rfl (fun K hK => ?_) AllReadyH.nil
        go_simp
        refine (backward_any (k := k) (HRS.out.below ((HB.out)))).mono ?_
        rintro e u59 ⟨b1, l1, q1, rfl, hr, hcg, hb, hgl⟩
        obtain ⟨v14, hv14⟩ : ∃ v, v = Value.agg #[fnV 71 #[.pointer (some ⟨q1, 0, none⟩)], .pointer (some ⟨b1, 0, none⟩)] := ⟨_, rfl⟩
        rw [← hv14]
        have HV14 := Lib.hid hv14
        clear hv14
        have F2 : Hid (SrF W k.b n S b1 l1 q1 u59) := Lib.hid ⟨hr, hcg, Nat.le_trans HB.out.size hgl⟩
        replace F6 := Lib.hid (F6.out.below hb)
        replace F7 := Lib.hid (F7.out.below hb)
        replace FC := Lib.hid (cell_below FC.out hb)
        replace HB := Lib.hid (HB.out.trans (hb.mono HB.out.size))
        clear hb hr hcg hgl
        refine hK.out _ _ (cellF_at FC.out) (fun hHeld59 => ?_)
        clear hK K
        try simp only [Act.put, List.getElem_toArray, List.getElem_cons_zero, List.getElem_cons_succ, List.setIfInBounds_toArray, List.set_cons_zero, List.set_cons_succ]
        refine wpAnyH_ready (rs := [5]) (by kernel_rfl) (by simp) ?_
        refine AllReadyH.cons rfl (fun K hK => ?_) AllReadyH.nil
        go_simp
        refine (onward_any (k := k) (HRS.out.below ((HB.out)))).mono ?_
        rintro e u60 ⟨b2, l2, q2, rfl, hr, hcg, hb, hgl⟩
        obtain ⟨v17, hv17⟩ : ∃ v, v = Value.agg #[fnV 58 #[.pointer (some ⟨q2, 0, none⟩)], .pointer (some ⟨b2, 0, none⟩)] := ⟨_, rfl⟩
        rw [← hv17]
        have HV17 := Lib.hid hv17
        clear hv17
        have HNL : Hid (l1 ≠ l2) := Lib.hid (by have := heap_lt F2.out.1.2.1; omega)
        have F5 : Hid (SrF W k.b n S b2 l2 q2 u60) := Lib.hid ⟨hr, hcg, Nat.le_trans HB.out.size hgl⟩
        replace F2 := Lib.hid (F2.out.below hb)
        replace F6 := Lib.hid (F6.out.below hb)
        replace F7 := Lib.hid (F7.out.below hb)
        replace FC := Lib.hid (cell_below FC.out hb)
        replace HB := Lib.hid (HB.out.trans (hb.mono HB.out.size))
        clear hb hr hcg hgl
        refine hK.out _ _ (cellF_at FC.out) (fun hHeld60 => ?_)
        clear hK K
        try simp only [Act.put, List.getElem_toArray, List.getElem_cons_zero, List.getElem_cons_succ, List.setIfInBounds_toArray, List.set_cons_zero, List.set_cons_succ]
        refine wpAnyH_ready (rs := [8]) (by kernel_rfl) (by simp) ?_
        refine AllReadyH.cons rfl (fun K hK => ?_) AllReadyH.nil
        rw [if_pos (by rfl)]
        obtain ⟨z, hz, hgz⟩ := F6.out.2
        refine wp_store_se (.tmp 4) (.tmp 14) rfl g4 71 #[.pointer (some ⟨q1, 0, none⟩)] b1 z rfl HV14.out hgz hz ?_
        intro u61 hst
        replace F2 := Lib.hid (F2.out.stored hst hgz)
        replace F5 := Lib.hid (F5.out.stored hst hgz)
        replace FC := Lib.hid (cellF_stored FC.out hst hgz)
        replace HB := Lib.hid (hst.below HB.out F6.out.1)
        have P8 := Lib.hid hst.2.2.2.2.1
        replace F7 : Hid (AlF W g5 u61) := Lib.hid (by obtain ⟨p1, z7, p2, p3⟩ := F7.out; exact ⟨p1, z7, p2, (hst.2.2.2.2.2 _ HNG.out.symm).trans p3⟩)
        clear hst hgz hz
        refine hK.out _ _ (cellF_at FC.out) (fun hHeld61 => ?_)
        clear hK K
        try simp only [Act.put, List.getElem_toArray, List.getElem_cons_zero, List.getElem_cons_succ]
        refine wpAnyH_ready (rs := [9]) (by kernel_rfl) (by simp) ?_
        refine AllReadyH.cons rfl (fun K hK => ?_) AllReadyH.nil
        rw [if_pos (by rfl)]
        obtain ⟨z, hz, hgz⟩ := F7.out.2
        refine wp_store_se (.tmp 5) (.tmp 17) rfl g5 58 #[.pointer (some ⟨q2, 0, none⟩)] b2 z rfl HV17.out hgz hz ?_
        intro u62 hst
        replace F2 := Lib.hid (F2.out.stored hst hgz)
        replace F5 := Lib.hid (F5.out.stored hst hgz)
        replace FC := Lib.hid (cellF_stored FC.out hst hgz)
        replace HB := Lib.hid (hst.below HB.out F7.out.1)
        have P9 := Lib.hid hst.2.2.2.2.1
        replace P8 := Lib.hid ((hst.2.2.2.2.2 _ HNG.out).trans P8.out)
        clear hst hgz hz
        refine hK.out _ _ (cellF_at FC.out) (fun hHeld62 => ?_)
        clear hK K
        try simp only [Act.put, List.getElem_toArray, List.getElem_cons_zero, List.getElem_cons_succ]
        refine wpAnyH_done (by kernel_rfl) ?_ _
        exact HJ.out g4 g5 v14 v17 u62 ⟨_, _, _, _, _, _, P8.out, P9.out, F2.out, F5.out, HNL.out, FC.out, HB.out, HNG.out⟩
      exact AllReadyH.nil
    exact AllReadyH.nil
  case rest =>
    rintro g4 g5 v14 v17 U HJ0
    have HJ := Lib.hid HJ0
    clear HJ0 FC HB
    obtain ⟨b1, l1, q1, b2, l2, q2, hP8, hP9, hF2, hF5, hnl, hfc, hb, hg45⟩ := HJ.out
    have HB := Lib.hid hb
    have HF := Lib.hid (And.intro hP8 (And.intro hP9 (And.intro hF2 (And.intro hF5 hfc))))
    have HNL := Lib.hid hnl
    have HLI := Lib.hid (rowList_any bs gs n S U (HRS.out.below hb) (HT.out.below hb).1 (HT.out.below hb).2)
    clear hP8 hP9 hF2 hF5 hnl hfc hb hg45 HJ
    go_wp2_with fail
    refine HLI.out.mono ?_
    rintro e wC ⟨⟨lv, rfl, hown⟩, hbC⟩
    rw [rowInts_nat] at hown
    obtain ⟨cs, hcs⟩ : ∃ cs, cs = preB (fun x => S.testBit x) n := ⟨_, rfl⟩
    rw [← hcs] at hown
    have HMEM : Hid (∀ x, x ∈ cs ↔ (x < n ∧ S.testBit x = true)) := Lib.hid fun x => by
      rw [hcs]
      unfold preB
      rw [List.mem_filter, List.mem_range]
    have hcl2 : cs.length ≤ 4096 := by
      rw [hcs]
      have := List.length_filter_le (fun x => S.testBit x) (List.range n)
      rw [List.length_range] at this
      have h3 := HCS.out.hn
      unfold preB
      omega
    have hbW : Below W.heap.size W wC := HB.out.trans (hbC.mono HB.out.size)
    have HBW := Lib.hid hbW
    have HCC := Lib.hid (HCS.out.below hbW)
    have HTC := Lib.hid (HT.out.below hbW)
    have HFC : Hid (wC.heap[g4]? = some (.cells #[fnV 71 #[.pointer (some ⟨q1, 0, none⟩)], .pointer (some ⟨b1, 0, none⟩)] 79) ∧ wC.heap[g5]? = some (.cells #[fnV 58 #[.pointer (some ⟨q2, 0, none⟩)], .pointer (some ⟨b2, 0, none⟩)] 79) ∧ SrF W k.b n S b1 l1 q1 wC ∧ SrF W k.b n S b2 l2 q2 wC ∧ wC.heap[cb]? = some (cellF k.b)) := Lib.hid ⟨cell_below HF.out.1 hbC, cell_below HF.out.2.1 hbC, HF.out.2.2.1.below hbC, HF.out.2.2.2.1.below hbC, cell_below HF.out.2.2.2.2 hbC⟩
    have HOU1 : Hid (Out k n (some (lb, lg, LV)) wC l1) := Lib.hid (Out.new HCS.out HFC.out.2.2.1.2.2 HFC.out.2.2.1.1.2.1)
    have HNX1 := Lib.hid (nxF_backward HCC.out HOU1.out HTC.out (by have := HT.out.2; have := HFC.out.2.2.1.2.2; omega) HFC.out.2.2.1.2.1)
    obtain ⟨pd, cd, hlv, hcell⟩ := own_cell hown (by omega)
    subst hlv
    have HCU : Hid (∀ i, i < cs.length → ∃ g o, pd = some ⟨g, o, none⟩ ∧ (∀ W' : World, Fr (fun g => g = l1) wC W' → W'.cell? ⟨g, o + i, none⟩ = some (.int .i64 ((cs.getD i 0 : Nat) : Int))) ∧ cs.getD i 0 < n ∧ cs.take (i + 1) = cs.take i ++ [cs.getD i 0]) := Lib.hid fun i hi => by
      obtain ⟨g, o, h1, h2⟩ := hcell i hi
      have e : cs.getD i 0 = cs[i] := by simp [List.getD_eq_getElem?_getD, hi]
      refine ⟨g, o, h1, fun W' hW => h2 W' (fun g' hg => hW.block (World.ownsRow.lt hown g' hg).2 (fun hF => ?_)), by rw [e]; exact ((HMEM.out _).1 (List.getElem_mem hi)).1, by rw [e, List.take_succ_eq_append_getElem hi]⟩
      have := own_ne hown HFC.out.2.2.1.1.2.1 (by decide)
      rw [hg, hF] at this
      exact this rfl
    have HJ0 : Hid (L1I wC n b1 l1 (V 1) S (cs.take 0) (.slice none 0 0) wC) := Lib.hid ⟨S, [], by rw [List.take_zero]; exact .nil, Lst.OwnI.nil _ _, HFC.out.2.2.1.1, Fr.refl _ _⟩
    have HST : Hid (∀ W', Fr (fun g => g = l1) wC W' → W'.cell? ⟨g4, 0, none⟩ = some (.func (.func 71) #[] #[.pointer (some ⟨q1, 0, none⟩)]) ∧ W'.cell? ⟨g4, 1, none⟩ = some (.pointer (some ⟨b1, 0, none⟩)) ∧ g4 < W'.heap.size) := Lib.hid fun W' hW => by
      have h4 := HFC.out.1
      have hne : g4 ≠ l1 := fun e => by
        rw [e, HFC.out.2.2.1.1.2.1] at h4
        simp only [Option.some.injEq, Obj.cells.injEq] at h4
        exact absurd h4.2.1 (by decide)
      have h5 := (hW.block (heap_lt h4) hne).trans h4
      refine ⟨?_, ?_, heap_lt h5⟩ <;> simp [World.cell?, h5, fnV]
    have HALLN : Hid (∀ z, S.testBit z = true → z ∈ cs) := Lib.hid fun z hz => (HMEM.out z).2 ⟨bit_lt HRS.out.2.2.2 hz, hz⟩
    obtain ⟨K, hK⟩ : ∃ K, K = cs.length := ⟨_, rfl⟩
    have HKK := Lib.hid hK
    have hKi : (K : Int) ≤ 4096 := by omega
    rw [← hK] at HCU ⊢
    clear hown hbC hcs hcl2 hcell hK HLI HF hbW
    go_wp2_with fail
    go_loopw [6, 21] (fun s6 s21 wr => ∃ i : Nat, s21 = .int .i64 (i : Int) ∧ i ≤ K ∧ ∃ v, v = s6 ∧ Hid (L1I wC n b1 l1 (V 1) S (cs.take i) v wr)) (fun _ s21 _ => K - (intOf s21).toNat)
    case atStart => exact ⟨0, rfl, Nat.zero_le _, _, rfl, HJ0⟩
    case round =>
      clear HJ0
      obtain ⟨i, rfl, hi, v6, hv6, HI⟩ := hrel
      subst hv6
      by_cases hlt : i < K
      · obtain ⟨g, o2, rfl, hcx, hxn, htk⟩ := HCU.out i hlt
        obtain ⟨X, o, hd, ho, hr, hfr⟩ := HI.out
        have hx := hcx _ hfr
        obtain ⟨s0, s1, hg4⟩ := HST.out _ hfr
        have hii : (i : Int) < (K : Int) := by omega
        obtain ⟨c, hcd⟩ : ∃ c, c = cs.getD i 0 := ⟨_, rfl⟩
        rw [← hcd] at hx hxn htk
        have hlen := dfs_len hd (n := n) (fun x hx => bit_lt HRS.out.2.2.2 hx)
        have hcn := cntB_le_n (fun x => S.testBit x) n
        have hn4 := HCS.out.hn
        have HFR := Lib.hid (from_any HNX1.out (cntB (fun x => X.testBit x) n) wr X c v6 (natI o) hfr hr ho hxn (Nat.le_refl _) (by rw [natI_len]; omega))
        unfold fnV at HFR
        have HD := Lib.hid (And.intro hd (And.intro ho hfr))
        have HTK := Lib.hid htk
        obtain ⟨p6, n6, c6, hv6⟩ : ∃ p n c, v6 = .slice p n c := by
          rcases ho.2 with ⟨hv, _⟩ | ⟨g, cap, cur, hv, _⟩
          · exact ⟨_, _, _, hv⟩
          · exact ⟨_, _, _, hv⟩
        subst hv6
        clear hcx hxn htk hcd hlen hcn hn4 hd ho hr hfr HI
        go_wp2_with fail
        refine HFR.out.mono ?_
        rintro e w2 ⟨v', X', o', rfl, k1, k2, k3, k4, _⟩
        have HN : Hid (L1I wC n b1 l1 (V 1) S (cs.take (i + 1)) v' w2) := Lib.hid (by rw [HTK.out]; exact L1I.step HD.out.1 HD.out.2.1 HD.out.2.2 k1 k2 k3 k4)
        clear k1 k2 k3 k4 HFR HD s0 s1 hg4 hx
        go_wp2_with fail
        go_roundw
        case rel => exact ⟨i + 1, by go_num, by omega, _, rfl, HN⟩
        case measure => simp [intOf]; omega
      · have hiK : i = K := by omega
        subst hiK
        have HI2 : Hid (L1I wC n b1 l1 (V 1) S cs v6 wr) := Lib.hid (by
          have := HI.out
          rwa [HKK.out, List.take_length] at this)
        clear HI hlt hi HCU HST
        obtain ⟨X1, o, hd, ho, hr, hfr⟩ := HI2.out
        have HALL : Hid (∀ z, S.testBit z = true → z ∈ o) := Lib.hid fun z hz => Dfs.all hd (fun y hy => HALLN.out y hy) hz
        have HD := Lib.hid (And.intro hd (And.intro ho hfr))
        have HOL : Hid (o.length ≤ 4096) := Lib.hid (by
          have hlen := dfs_len hd (n := n) (fun x hx => bit_lt HRS.out.2.2.2 hx)
          have hcn := cntB_le_n (fun x => S.testBit x) n
          have hn4 := HCS.out.hn
          omega)
        obtain ⟨p6, c6, hv6, hcell⟩ := own_cell ho (by have := HOL.out; omega)
        subst hv6
        have HBF := Lib.hid (backward_fn (p := p6) (len := o.length) (c := c6) wr)
        clear hd ho hr HI2
        go_wp2_with fail
        refine HBF.out.mono ?_
        rintro e wE ⟨rfl, hwE⟩
        have hbE : Below wr.heap.size wr wE := by rw [hwE]; exact (Below.refl _ _).alloc (Nat.le_refl _) _
        have hboxE : wE.heap[wr.heap.size]? = some (.cells #[.slice p6 o.length c6] 30) := by rw [hwE]; exact heap_alloc_at _ _ _ rfl
        obtain ⟨cw, hcw⟩ : ∃ g, g = wr.heap.size := ⟨_, rfl⟩
        rw [← hcw] at hboxE ⊢
        have hcsE : CS B k n wE f V (some (lb, lg, LV)) m := (HCC.out.fr HOU1.out hfr).below hbE
        have keep1 : ∀ {g : Nat} {ds : Array Value} {T : TypeId}, wC.heap[g]? = some (Obj.cells ds T (0, 0)) → T ≠ 86 → wE.heap[g]? = some (Obj.cells ds T (0, 0)) := fun {g ds T} hg hT => cell_below ((hfr.block (heap_lt hg) (fun e => by
          rw [e, HFC.out.2.2.1.1.2.1] at hg
          simp only [Option.some.injEq, Obj.cells.injEq] at hg
          exact hT hg.2.1.symm)).trans hg) hbE
        have hq2 := HFC.out.2.2.2.1.2.1
        have hcbC := HFC.out.2.2.2.2
        unfold cellF at hq2 hcbC
        have hr2E : RowAt wE b2 l2 n S := ((HFC.out.2.2.2.1.1).keep (hfr.block (heap_lt HFC.out.2.2.2.1.1.1) (fun e => row_ne HFC.out.2.2.2.1.1 HFC.out.2.2.1.1 e)) (hfr.block (heap_lt HFC.out.2.2.2.1.1.2.1) (fun e => HNL.out e.symm))).below hbE
        have HEE : Hid (CS B k n wE f V (some (lb, lg, LV)) m ∧ RowAt wE b2 l2 n S ∧ TabW wE ∧ wE.heap[q2]? = some (.cells #[.pointer (some ⟨k.b, 0, none⟩)] 23) ∧ wE.heap[cb]? = some (.cells #[.pointer (some ⟨k.b, 0, none⟩)] 23) ∧ wE.heap[g5]? = some (.cells #[fnV 58 #[.pointer (some ⟨q2, 0, none⟩)], .pointer (some ⟨b2, 0, none⟩)] 79) ∧ wE.heap[cw]? = some (.cells #[.slice p6 o.length c6] 30)) := Lib.hid ⟨hcsE, hr2E, (HTC.out.fr hfr (fun e => by have := HT.out.2; have := HFC.out.2.2.1.2.2; omega)).below hbE, keep1 hq2 (by decide), keep1 hcbC (by decide), keep1 HFC.out.2.1 (by decide), hboxE⟩
        have HOU2 : Hid (Out k n (some (lb, lg, LV)) wE l2) := Lib.hid (Out.new HCS.out HFC.out.2.2.2.1.2.2 hr2E.2.1)
        have HKEEP : Hid (∀ W', Fr (fun g => g = l2 ∨ g = lg ∨ ∃ i, i < n ∧ g = k.rg 2 i) wE W' → ∀ (g : Nat) (ds : Array Value) (T : TypeId), wE.heap[g]? = some (Obj.cells ds T (0, 0)) → T ≠ 86 → W'.heap[g]? = some (Obj.cells ds T (0, 0))) := Lib.hid fun W' hW g ds T hg hT => (hW.block (heap_lt hg) (fun e => by
          rcases e with e | e | ⟨i, hi, e⟩
          · rw [e, hr2E.2.1] at hg
            simp only [Option.some.injEq, Obj.cells.injEq] at hg
            exact hT hg.2.1.symm
          · rw [e, (hcsE.lst _ rfl).1.2.1] at hg
            simp only [Option.some.injEq, Obj.cells.injEq] at hg
            exact hT hg.2.1.symm
          · rw [e, (hcsE.row 2 (by omega) i hi).2.1] at hg
            simp only [Option.some.injEq, Obj.cells.injEq] at hg
            exact hT hg.2.1.symm)).trans hg
        have HBWK : Hid (∀ j W', L2I wE B k n m lb lg LV f E u v V S b2 l2 o j W' → BwK cw p6 c6 o W') := Lib.hid fun j W' hJ => by
          obtain ⟨Vk, Lk, Xk, _, _, _, _, _, _, _, hF⟩ := hJ
          have hk := HKEEP.out W' hF
          refine ⟨by have := hk _ _ _ HEE.out.2.2.2.2.2.2 (by decide); simp [World.cell?, this], fun i hi => ?_⟩
          obtain ⟨g, o', h1, h2⟩ := hcell i hi
          refine ⟨g, o', h1, h2 W' (fun g' hg => ?_)⟩
          rcases HD.out.2.1.2 with ⟨hv, _⟩ | ⟨gg, cap, cur, hv, _, hg2, _⟩
          · rw [hv] at hg; cases hg
          · rw [hv] at hg
            injection hg with hg
            subst hg
            exact (hk _ _ _ (cell_below hg2 hbE) (by decide)).trans hg2.symm
        have HFRE : Hid (Fr (fun _ => False) W wE) := Lib.hid (((Fr.of_below HBW.out).trans (F' := fun g => g = l1) hfr (fun g hg e => by have := HFC.out.2.2.1.2.2; omega)).trans (F' := fun _ => False) (Fr.of_below hbE) (fun g _ e => e))
        have HO : Hid (Dfs (nxl n (V 1)) cs (fun x => S.testBit x) (fun x => X1.testBit x) o) := Lib.hid HD.out.1
        have HJ0 : Hid (L2I wE B k n m lb lg LV f E u v V S b2 l2 o 0 wE) := Lib.hid ⟨V, LV, S, HEE.out.1, ren_start HMID.out HSS.out, by rw [Nat.sub_zero, List.drop_length]; exact Todo.start _, HEE.out.2.1, Shr.refl _ _ _, rfl, rfl, Fr.refl _ _⟩
        have HL2 : Hid (W.heap.size ≤ l2) := Lib.hid HFC.out.2.2.2.1.2.2
        have HMB : Hid (k.mb < wE.heap.size) := Lib.hid (by obtain ⟨es, cl, hm⟩ := HEE.out.1.mp; exact heap_lt hm)
        clear hbE hboxE hcw hcsE keep1 hq2 hcbC hr2E hfr hcell hwE HBF HD HNX1 HOU1 HCC HTC HFC HBW HB HMID HSS
        go_wp2_with fail
        refine (wpIn_wide (n := 5)).1 ?_
        refine range_back (w := wE) (os := o) (cb := cw) (c := c6) (pp := p6) (m := 5) HOL.out rfl rfl (L2I wE B k n m lb lg LV f E u v V S b2 l2 o) HBWK.out (fun j W W' h hb => h.below hb) (fun j W l ob ob' h h1 h2 h3 => h.put h1 h2 HMB.out h3) HJ0.out ?a1 ?assign ?body ?done
        case assign =>
          intro l i x W K hK
          gi_wp2
          exact hK
        case body =>
          intro l j i x W2 hji hx hJ
          obtain ⟨Vk, Lk, Xk, h1, h2, h3, h4, h5, h6, h7, h8⟩ := hJ
          have hk := HKEEP.out W2 h8
          have hxo : x ∈ o := by
            have hi : i < o.length := by omega
            have : o.getD i 0 = o[i] := by simp [List.getD_eq_getElem?_getD, hi]
            rw [← hx, this]
            exact List.getElem_mem hi
          have hxn : x < n := bit_lt HRS.out.2.2.2 ((HO.out.told.2 x).1 hxo).1
          have htW : TabW W2 := HEE.out.2.2.1.fr h8 (fun e => by
            have hB := HTB.out
            have hT := HT.out.2
            have h9 : B ≤ lg := (HCS.out.lst _ rfl).2.1
            have h10 := HOU2.out.cells
            rcases e with e | e | ⟨i, hi, e⟩
            · have := HL2.out
              omega
            · omega
            · have := HCS.out.ge.2.2 2 (by omega) i hi
              omega)
          have hou : Out k n (some (lb, lg, Lk)) W2 l2 := ⟨⟨_, h4.2.1⟩, HOU2.out.ne, fun y hy => by cases hy; exact HOU2.out.la (lb, lg, LV) rfl⟩
          have hNX := nxF_onward h1 hou htW (by have := HT.out.2; have := HL2.out; omega) (hk _ _ _ HEE.out.2.2.2.1 (by decide))
          have HFR := Lib.hid (from_any hNX (cntB (fun x => Xk.testBit x) n) W2 Xk x (.slice none 0 0) [] (Fr.refl _ _) h4 (Lst.OwnI.nil _ _) hxn (Nat.le_refl _) (by have := cntB_le_n (fun x => Xk.testBit x) n; have := HCS.out.hn; simp; omega))
          unfold fnV at HFR
          have hg5 := hk _ _ _ HEE.out.2.2.2.2.2.1 (by decide)
          have hcb := hk _ _ _ HEE.out.2.2.2.2.1 (by decide)
          have s0 : W2.cell? ⟨g5, 0, none⟩ = some (.func (.func 58) #[] #[.pointer (some ⟨q2, 0, none⟩)]) ∧ W2.cell? ⟨g5, 1, none⟩ = some (.pointer (some ⟨b2, 0, none⟩)) := by simp [World.cell?, hg5, fnV]
          obtain ⟨s0, s1⟩ := s0
          have hg5l := heap_lt hg5
          have H1 := Lib.hid (And.intro h1 (And.intro h2 (And.intro h3 (And.intro h4 (And.intro h5 (And.intro h6 (And.intro h7 (And.intro h8 htW))))))))
          have HOU3 := Lib.hid hou
          have HCB := Lib.hid hcb
          have HX := Lib.hid (And.intro hji hx)
          have HXN := Lib.hid hxn
          clear h1 h2 h3 h4 h5 h6 h7 h8 hk hxo htW hou hNX hg5 hcb hji hx
          gi_wp2
          refine ⟨trivial, ((callsIn_wide.2 HFR.out).inRound l).mono ?_⟩
          rintro e W3 ⟨v3, X3, t, rfl, k1, k2, k3, k4, _⟩
          have k1 : Lst.OwnI W2.heap.size W3 v3 (natI t) := by simpa using k1
          have k4 : Fr (fun g => g = l2) W2 W3 := k4.mono (fun g e => e.elim id fun e => by simp [Value.ownBlock] at e)
          have htn : ∀ y ∈ t, y < n := fun y hy => bit_lt H1.out.2.2.2.1.2.2.2 ((k3.told.2 y).1 hy).1
          have htl : t.length ≤ 4096 := by
            have h1 := nodup_le k3.told.1 htn
            have := HCS.out.hn
            omega
          obtain ⟨p3, c3, hv3, _⟩ := own_cell k1 (by omega)
          have hF3 : Fr (fun g => g = l2 ∨ g = lg ∨ ∃ i, i < n ∧ g = k.rg 2 i) wE W3 := H1.out.2.2.2.2.2.2.2.1.trans (F' := fun g => g = l2) k4 (fun g _ e => .inl e)
          have hcs3 := H1.out.1.fr HOU3.out k4
          have hcb3 := HKEEP.out W3 hF3 _ _ _ HEE.out.2.2.2.2.1 (by decide)
          have k0 : W3.cell? ⟨cb, 0, none⟩ = some (.pointer (some ⟨k.b, 0, none⟩)) := by simp [World.cell?, hcb3]
          have hcbl := heap_lt hcb3
          have H3 := Lib.hid (And.intro k1 (And.intro k2 (And.intro k3 (And.intro k4 (And.intro hF3 hcs3)))))
          have HTN := Lib.hid (And.intro htn htl)
          subst hv3
          obtain ⟨T, hT⟩ : ∃ T, T = t.length := ⟨_, rfl⟩
          have HTL := Lib.hid hT
          have hTi : (T : Int) ≤ 4096 := by omega
          rw [← hT]
          clear k1 k2 k3 k4 htn htl hF3 hcs3 hcb3 s0 s1 hg5l HFR hT
          cases hxk : Xk.testBit x with
          | false =>
            have hone := dfs_one_no H3.out.2.2.1 hxk
            have hT0 : T = 0 := by rw [HTL.out, hone.1]; rfl
            have HRES : Hid (RKb W2 W3 ∧ L2I wE B k n m lb lg LV f E u v V S b2 l2 o (j + 1) W3) := Lib.hid ⟨rkb_of (F := fun g => g = l2) (fun g e => by rw [e]; exact ⟨_, H1.out.2.2.2.1.2.1⟩) H3.out.2.2.2.1, L2I.skip HO.out HX.out.1 HX.out.2 H3.out.2.2.2.2.2 H1.out.2.1 H1.out.2.2.1 H3.out.2.1 (fun z => congrFun hone.2 z) hxk H1.out.2.2.2.2.1 H1.out.2.2.2.2.2.1 H1.out.2.2.2.2.2.2.1 H3.out.2.2.2.2.1⟩
            subst hT0
            clear hone hxk
            gi_wp2
            exact HRES.out
          | true =>
            have hTp : 0 < T := by rw [HTL.out]; exact dfs_one_yes H3.out.2.2.1 hxk
            have hTpi : (0 : Int) < (T : Int) := by omega
            have ht3 : TabW W3 := H1.out.2.2.2.2.2.2.2.2.fr H3.out.2.2.2.1 (fun e => by have := HT.out.2; have := HL2.out; omega)
            have HSE := Lib.hid (settle_any H3.out.2.2.2.2.2 ht3 H3.out.1 HTN.out.1 HTN.out.2)
            have HXK := Lib.hid hxk
            rw [← HTL.out] at HSE
            clear ht3 hxk
            gi_wp2
            refine ⟨trivial, ((callsIn_wide.2 HSE.out).inRound l).mono ?_⟩
            rintro e W4 ⟨X, L4, rfl, hX, hC4, hL4, hF4⟩
            have HRES : Hid (RKb W2 W4 ∧ L2I wE B k n m lb lg LV f E u v V S b2 l2 o (j + 1) W4) := Lib.hid (by
              have hr3 := H3.out.2.1
              have hc3 := H3.out.2.2.2.2.2
              have hr4 : RowAt W4 b2 l2 n X3 := by
                refine hr3.keep (hF4.block (heap_lt hr3.1) ?_) (hF4.block (heap_lt hr3.2.1) ?_)
                · rintro (e | ⟨i, hi, e⟩)
                  · exact row_ne hr3 (hc3.lst _ rfl).1 e
                  · exact row_ne hr3 (hc3.row 2 (by omega) i hi) e
                · rintro (e | ⟨i, hi, e⟩)
                  · exact HOU2.out.la _ rfl e.symm
                  · exact HOU2.out.ne 2 (by omega) i hi e.symm
              have hF24 : Fr (fun g => g = l2 ∨ g = lg ∨ ∃ i, i < n ∧ g = k.rg 2 i) W2 W4 := (H3.out.2.2.2.1.mono (F' := fun g => g = l2 ∨ g = lg ∨ ∃ i, i < n ∧ g = k.rg 2 i) (fun g e => .inl e)).trans hF4 (fun g _ e => .inr e)
              refine ⟨rkb_of (fun g e => ?_) hF24, L2I.cut HRS.out.2.2.2 HO.out HALL.out HX.out.1 HX.out.2 H1.out.2.1 H1.out.2.2.1 HXK.out H3.out.2.2.1 H1.out.2.2.2.2.1 H1.out.2.2.2.2.2.1 H1.out.2.2.2.2.2.2.1 (fun x hx => (H1.out.1.row 2 (by omega) x hx).2.2.2) hC4 hX hL4 hr4 (H1.out.2.2.2.2.2.2.2.1.trans hF24 (fun g _ e => e))⟩
              rcases e with e | e | ⟨i, hi, e⟩
              · rw [e]; exact ⟨_, H1.out.2.2.2.1.2.1⟩
              · rw [e]; exact ⟨_, (H1.out.1.lst _ rfl).1.2.1⟩
              · rw [e]; exact ⟨_, (H1.out.1.row 2 (by omega) i hi).2.1⟩)
            clear hX hC4 hL4 hF4 HSE hTp hTpi
            gi_wp2
            exact HRES.out
        case done =>
          intro D W2 hD hJ hDD
          have hJ2 := hJ.put (ob' := .deferred none) hDD rfl HMB.out hD
          have HRES : Hid (UnP B k n m lb lg LV f E u v V W (.returned (.tuple #[])) (W2.putObj D (.deferred none))) := Lib.hid (by
            obtain ⟨V5, L5, r1, r2, r3, r4, r5⟩ := hJ2.done HALL.out
            obtain ⟨_, _, _, _, _, _, _, _, _, _, hF5⟩ := hJ2
            refine ⟨V5, L5, rfl, r1, r2, r3, r4, r5, (HFRE.out.mono (fun g e => e.elim)).trans hF5 (fun g hg e => ?_)⟩
            rcases e with e | e | ⟨i, hi, e⟩
            · have := HL2.out
              omega
            · exact .inl e
            · exact .inr ⟨2, i, by omega, hi, e⟩)
          have HDD := Lib.hid hDD
          clear hJ hJ2 hDD hD
          show bodyPostM Fence.wide 5 Tryd.prog _ _ Exit.normal _ _
          refine ⟨by simp, .inl ⟨_, _, rfl, run_takeDeferred HDD.out, ?_⟩⟩
          exact ⟨_, results_none rfl _ _ _, HRES.out⟩

end Go.Proofs.YtakgepdlninnhaaDoor.Cs
