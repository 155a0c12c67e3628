/-
  Contracts of small functions, several texts laid into one. Not a statement of the seat.
-/
import Derived.Test.YtmgkpabagpgilaaDgCm
import Derived.RangeFuncGives
import Derived.RangeFuncNested
import Derived.RangeFuncBound
import Derived.RangeFuncCalls
import Derived.RangeFuncLeaves
import Derived.Shelf.RegionOpen
import Derived.OwnWalkIn
import Derived.TacticsInMore
import Derived.LoopNIn
import Derived.LoopIn
namespace Go.Proofs.Ytmgkpabagpgilaa.Dg
open Go.ChangeShapes Go.WideShapes Go.ChangeAt Go.RowKit Go.Shelf Base F Tx Hi
set_option maxRecDepth 100000 in
theorem lits_e_inv {d : Nat} {cs : List Value} {ls : List Lit} (h : Try.prog.keyLits (d + 2) 33 cs = some ls) : ∃ a b c e, cs = [.int .i64 a, .int .i64 b, .int .i64 c, .int .i64 e] := by
  unfold Program.keyLits at h
  rw [Try.underlying33] at h
  have hc : Try.prog.cellsOf 33 = 4 := by kernel_rfl
  simp only [hc] at h
  by_cases hl : cs.length = 4
  · match cs, hl with
    | [a, b, c, e], _ =>
      rw [if_pos (by constructor; rfl; kernel_rfl)] at h
      cases ha : Try.prog.keyLits (d + 1) 3 [a] with
      | none => simp [Mp.cellsIE, ha] at h
      | some la =>
        cases hb : Try.prog.keyLits (d + 1) 3 [b] with
        | none => simp [Mp.cellsIE, ha, hb] at h
        | some lb =>
          cases hc1 : Try.prog.keyLits (d + 1) 3 [c] with
          | none => simp [Mp.cellsIE, ha, hb, hc1] at h
          | some lc =>
            cases he : Try.prog.keyLits (d + 1) 3 [e] with
            | none => simp [Mp.cellsIE, ha, hb, hc1, he] at h
            | some le =>
              obtain ⟨x, rfl, _⟩ := Mp.lits_intA_inv ha
              obtain ⟨y, rfl, _⟩ := Mp.lits_intA_inv hb
              obtain ⟨z, rfl, _⟩ := Mp.lits_intA_inv hc1
              obtain ⟨u, rfl, _⟩ := Mp.lits_intA_inv he
              exact ⟨x, y, z, u, rfl⟩
  · rw [if_neg (by rintro ⟨h1, _⟩; exact hl h1)] at h
    cases h
set_option maxRecDepth 100000 in
theorem inv_e (v : Value) (kl : Lit) (h : keyOf Try.prog 33 v = some kl) : ∃ e : Edg, v = gE e := by
  obtain ⟨n, hn⟩ : ∃ n, Try.prog.types.size + 1 = n + 2 := ⟨Try.prog.types.size - 1, by have : 0 < Try.prog.types.size := of_decide_eq_true (by kernel_rfl); omega⟩
  unfold keyOf at h
  rw [Try.underlying33] at h
  simp only at h
  split at h
  · rw [hn] at h
    cases hk : Try.prog.keyLits (n + 2) 33 v.cells.toList with
    | none => rw [hk] at h; cases h
    | some ls =>
      obtain ⟨a, b, c, e, hcs⟩ := lits_e_inv hk
      cases v <;> simp [Value.cells] at hcs
      case agg cs =>
        refine ⟨⟨a, b, c, e⟩, ?_⟩
        unfold gE
        congr 1
        exact Array.ext' hcs
  · cases h
abbrev MRe (W : World) (b r n : Nat) (f : Edg → Option Int) (left : Edg → Bool) (cnt : Nat) : Prop := Mp.MR Try.prog 33 3 gE W b r n f left cnt
theorem mr_walks {W W' : World} {b r n cnt : Nat} {f : Edg → Option Int} {left : Edg → Bool} (h : MRe W b r n f left cnt) (hk : KeepsWalks W W') : MRe W' b r n f left cnt := by
  obtain ⟨D, lf, h1, h2⟩ := h
  exact ⟨D, lf, h1.of_walks hk, h2⟩
def keyable (x : Edg) : Prop := ∃ kl, keyOf Try.prog 33 (gE x) = some kl
/-- What the iterator has given. -/
def Given (f : Edg → Option Int) (left : Edg → Bool) (ss : List Edg) : Prop := ss.Nodup ∧ (∀ x ∈ ss, (f x).isSome = true ∧ left x = false) ∧ ∀ x, keyable x → (f x).isSome = true → left x = false → x ∈ ss
theorem Given.start (f : Edg → Option Int) : Given f (fun x => (f x).isSome) [] := ⟨List.nodup_nil, fun x hx => (by cases hx), fun x _ h1 h2 => by
  have h2 : (f x).isSome = false := h2
  rw [h1] at h2; cases h2⟩
theorem Given.step {f : Edg → Option Int} {left : Edg → Bool} {ss : List Edg} {x : Edg} (h : Given f left ss) (hf : (f x).isSome = true) (hl : left x = true) : Given f (fun z => left z && !decide (z = x)) (ss ++ [x]) := by
  obtain ⟨h1, h2, h3⟩ := h
  have hx : x ∉ ss := fun hm => by have := (h2 x hm).2; rw [hl] at this; cases this
  refine ⟨List.nodup_append.2 ⟨h1, by simp, fun a ha b hb => ?_⟩, fun z hz => ?_, fun z hk hz1 hz2 => ?_⟩
  · rw [List.mem_singleton] at hb
    rintro rfl
    exact hx (hb ▸ ha)
  · rcases List.mem_append.1 hz with hz | hz
    · obtain ⟨q1, q2⟩ := h2 z hz
      exact ⟨q1, by show (left z && _) = false; rw [q2]; rfl⟩
    · rw [List.mem_singleton] at hz
      subst hz
      exact ⟨hf, by simp⟩
  · by_cases e : z = x
    · rw [e]; simp
    · refine List.mem_append_left _ (h3 z hk hz1 ?_)
      simpa [e] using hz2
set_option maxRecDepth 100000 in
set_option maxHeartbeats 8000000 in
theorem keysIt_any {bm b n : Nat} {f : Edg → Int} (W : World) (hbx : W.heap[bm]? = some (.cells #[.map (some b)] 52)) (hm : ME W b n f) (l m : Nat) (J : List Edg → World → Prop) (hJ : AbidesFrom W.heap.size J)
    (hY : ∀ pre x W1, J pre W1 → pre.length < n → YieldAt Fence.wide m Try.prog l #[gE x] W1 fun e W' => e = .returned (.bool true) ∧ J (pre ++ [x]) W' ∧ KeepsWalks W1 W')
    (h0 : J [] W) : Calls Try.prog 39 #[.func (.yield l) #[] #[], .pointer (some ⟨bm, 0, none⟩)] W fun e W' => (∃ v, e = .returned v) ∧ ∃ ss : List Edg, (ss.Nodup ∧ ss.length ≤ n) ∧ (∀ x ∈ ss, f x ≠ 0) ∧ (∀ x, Edg.ok x → f x ≠ 0 → x ∈ ss) ∧ J ss W' := by
  obtain ⟨fo, hfo⟩ : ∃ g : Edg → Option Int, g = fun x => if f x = 0 then none else some (f x) := ⟨_, rfl⟩
  have HF : Hid (∀ x, (fo x).isSome = !decide (f x = 0)) := Lib.hid fun x => by
    rw [hfo]
    by_cases h : f x = 0 <;> simp [h]
  have HM : Hid (Mp.MO Try.prog 33 3 gE W b n fo) := Lib.hid (by rw [hfo]; exact hm.opt)
  have HJ := Lib.hid hJ
  have HY := Lib.hid hY
  have H0 := Lib.hid h0
  have c0 : W.cell? ⟨bm, 0, none⟩ = some (.map (some b)) := by simp [World.cell?, hbx]
  have hbl := heap_lt hbx
  obtain ⟨r, hr⟩ : ∃ r, r = W.heap.size := ⟨_, rfl⟩
  have HR := Lib.hid hr
  clear hfo hm hJ hY h0 hbx
  go_enter Try.func39, Try.ntmps39
  go_wp2_with (at_range; refine Mp.wp_rangeO Mp.keyedE Try.underlying52 rfl (.tmp 4) rfl HM.out rfl ?_; intro w0 cnt0 hc0 hmr hg0 hs0)
  go_frame
  rw [← hr] at hmr ⊢
  have HT0 : Hid (MRe w0 b r n fo (fun x => (fo x).isSome) cnt0 ∧ 0 + cnt0 ≤ n ∧ J [] w0 ∧ Below W.heap.size W w0 ∧ r < w0.heap.size) := Lib.hid ⟨hmr, by omega, HJ.out _ _ _ none H0.out hg0 (fun r e => by cases e), ⟨hg0.os, hg0.tape, hg0.output, hg0.size, fun i hi => hg0.block i hi (by simp)⟩, by rw [hs0]; omega⟩
  clear hc0 hmr hg0 hs0 hr H0 c0 hbl HM
  go_loopw [3] (fun _ wr => ∃ (left : Edg → Bool) (cnt : Nat) (ss : List Edg), Hid (MRe wr b r n fo left cnt ∧ ss.length + cnt ≤ n ∧ J ss wr ∧ Given fo left ss)) (fun _ wr => wr.rangeLeft b r)
  case atStart => exact ⟨_, _, [], Lib.hid ⟨HT0.out.1, HT0.out.2.1, HT0.out.2.2.1, Given.start _⟩⟩
  case round =>
    clear HT0
    obtain ⟨left, cnt, ss, HS⟩ := hrel
    have HMR := Lib.hid HS.out.1
    go_wp2_with (at_next; refine Mp.wp_nextO Mp.keyedE Try.underlying3 inv_e (fun x y e => gE_inj e) rfl (.tmp 5) rfl rfl HMR.out ?_ ?_)
    · intro hl
      have HE : Hid ((ss.Nodup ∧ ss.length ≤ n) ∧ (∀ x ∈ ss, f x ≠ 0) ∧ (∀ x, Edg.ok x → f x ≠ 0 → x ∈ ss) ∧ J ss wr) := Lib.hid (by
        obtain ⟨_, hle, hj, g1, g2, g3⟩ := HS.out
        refine ⟨⟨g1, by omega⟩, fun x hx h0 => ?_, fun x hx h0 => ?_, hj⟩
        · have := (g2 x hx).1
          rw [HF.out, h0] at this
          cases this
        · obtain ⟨kl, hkl⟩ := key_E hx
          exact g3 x ⟨kl, hkl⟩ (by rw [HF.out]; simp [h0]) (hl x kl hkl))
      clear hl HS HMR
      go_wp2_with fail
      refine bodyPost_end (v := .tuple #[]) (results_none rfl _ _ _) rfl ?_
      exact ⟨⟨_, rfl⟩, ss, HE.out⟩
    · intro x c kl w1 cnt1 hkl hlx hfx hwc hmr1 hlt hg1 hs1 hen
      obtain ⟨x0, x1, x2, x3⟩ := x
      unfold gE at hen
      obtain ⟨X1, hX1⟩ : ∃ X1, X1 = w1.alloc (.cells #[.int .i64 x0, .int .i64 x1, .int .i64 x2, .int .i64 x3] 33) := ⟨_, rfl⟩
      have HX1 : Hid (MRe X1 b r n fo (fun z => left z && !decide (z = ⟨x0, x1, x2, x3⟩)) cnt1 ∧ ss.length + 1 + cnt1 ≤ n ∧ J ss X1 ∧ Given fo (fun z => left z && !decide (z = ⟨x0, x1, x2, x3⟩)) (ss ++ [(⟨x0, x1, x2, x3⟩ : Edg)])) := Lib.hid (by
        obtain ⟨m1, m2, m3, m4⟩ := HS.out
        have j1 : J ss w1 := HJ.out _ _ _ (some r) m3 hg1 (fun q e => by
          cases e
          obtain ⟨D, lf, q1, _⟩ := m1
          exact ⟨by have := HR.out; omega, q1.iter_walk⟩)
        rw [hX1]
        exact ⟨hmr1.kept (World.grownBy_alloc _ _ none) (by simp) (by simp), by omega, HJ.out _ _ _ none j1 (World.grownBy_alloc _ _ none) (fun q e => by cases e), m4.step (by rw [hfx]; rfl) hlx⟩)
      have HLT : Hid (cnt1 < wr.rangeLeft b r) := Lib.hid (by rw [HMR.out.left_eq]; exact hlt)
      have hxb : X1.heap[w1.heap.size]? = some (.cells #[.int .i64 x0, .int .i64 x1, .int .i64 x2, .int .i64 x3] 33) := by rw [hX1]; exact heap_alloc_at _ _ _ rfl
      have k0 : X1.cell? ⟨w1.heap.size, 0, none⟩ = some (.int .i64 x0) ∧ X1.cell? ⟨w1.heap.size, 1, none⟩ = some (.int .i64 x1) ∧ X1.cell? ⟨w1.heap.size, 2, none⟩ = some (.int .i64 x2) ∧ X1.cell? ⟨w1.heap.size, 3, none⟩ = some (.int .i64 x3) := by simp [World.cell?, hxb]
      obtain ⟨k0, k1, k2, k3⟩ := k0
      have hxl := heap_lt hxb
      have HYk := Lib.hid (HY.out ss ⟨x0, x1, x2, x3⟩ X1 HX1.out.2.2.1 (by have := HX1.out.2.1; omega))
      unfold gE at HYk
      dsimp only at HYk
      clear hkl hlx hfx hwc hmr1 hlt hg1 hs1 HS HMR hxb
      go_upto_region 3 with fail
      rw [← hX1]
      clear hX1 hen
      obtain ⟨fn, tmps, assign, body, hy, hR⟩ := HYk.out
      clear HYk
      refine wpIn_wide (n := m + 1).1 ?_
      gi_wp2
      refine hR.mono ?_
      rintro e W3 ⟨rfl, hJ3, hk3⟩
      have HM3 : Hid (W3.rangeLeft b r = cnt1) := Lib.hid (mr_walks HX1.out.1 hk3).left_eq
      have HN2 : Hid (MRe W3 b r n fo (fun z => left z && !decide (z = ⟨x0, x1, x2, x3⟩)) cnt1 ∧ (ss ++ [(⟨x0, x1, x2, x3⟩ : Edg)]).length + cnt1 ≤ n ∧ J (ss ++ [(⟨x0, x1, x2, x3⟩ : Edg)]) W3 ∧ Given fo (fun z => left z && !decide (z = ⟨x0, x1, x2, x3⟩)) (ss ++ [(⟨x0, x1, x2, x3⟩ : Edg)])) := Lib.hid ⟨mr_walks HX1.out.1 hk3, by have := HX1.out.2.1; simp only [List.length_append, List.length_cons, List.length_nil]; omega, hJ3, HX1.out.2.2.2⟩
      clear hy hR hJ3 hk3 k0 k1 k2 k3 hxl HX1
      gi_wp2
      go_wp2_with fail
      go_roundw
      case rel => exact ⟨_, cnt1, _, HN2⟩
      case measure => rw [HM3.out]; exact HLT.out
end Go.Proofs.Ytmgkpabagpgilaa.Dg
namespace Go.Proofs.Ytmgkpabagpgilaa.Dg
open Go.ChangeShapes Go.WideShapes Go.ChangeAt Go.RowKit Go.Shelf Base F Tx Hi
attribute [local go_sem] Oper.semAt_some
/-- What a round keeps: what is no cells. -/
def RKc (W W' : World) : Prop := W.heap.size ≤ W'.heap.size ∧ ∀ (g : Nat) (o : Obj), W.heap[g]? = some o → o.isCells = false → W'.heap[g]? = some o
theorem walk_cells {o : Obj} (h : o.isWalk = true) : o.isCells = false := by cases o <;> simp_all [Obj.isWalk, Obj.isCells]
def RPc (I : List Edg → World → Prop) (ss : List Edg) (x : Edg) (W : World) : Exit → Act → World → Prop
  | .normal, _, W' => RKc W W' ∧ I (ss ++ [x]) W'
  | _, _, _ => False
theorem range_keys {bm b n : Nat} {f : Edg → Int} {g : Operand} {ps : Array Tmp} {assign body : Code} {Q : Exit → Act → World → Prop} {a : Act} {w : World} {n0 m : Nat}
    (hbx : w.heap[bm]? = some (.cells #[.map (some b)] 52)) (hm : ME w b n f) (hps : ps.size = 1)
    (hg : a.eval g = .func (.func 39) #[] #[.pointer (some ⟨bm, 0, none⟩)])
    (I : List Edg → World → Prop) (hI : AbidesFrom w.heap.size I)
    (hP : ∀ ss W l (o : Obj) o', I ss W → W.heap[l]? = some o → o.isCells = false → w.heap.size ≤ l → I ss (W.putObj l o'))
    (h0 : I [] w) (a₁ : Edg → Nat → Act)
    (hassign : ∀ (l : Nat) (x : Edg) (W : World) (K : Act → World → Prop), K (a₁ x W.heap.size) (W.alloc (.cells #[.int .i64 x.f, .int .i64 x.t, .int .i64 x.kd, .int .i64 x.k] 33)) →
      assign.wpIn (Fence.wide.inRound l) m Try.prog (Exit.then K (fun _ _ _ => False)) { tmps := (ps.zip #[gE x]).foldl (fun t (p, v) => t.setIfInBounds p v) a.tmps, defers := [] } W)
    (hbody : ∀ (l : Nat) (x : Edg) (q : Nat) (W : World) (ss : List Edg), ss.length < n → I ss W → W.heap[q]? = some (.cells #[.int .i64 x.f, .int .i64 x.t, .int .i64 x.kd, .int .i64 x.k] 33) → body.wpIn (Fence.wide.inRound l) m Try.prog (RPc I ss x W) (a₁ x q) W)
    (hdone : ∀ (D : Nat) (W : World) (ss : List Edg), w.heap.size ≤ D → (ss.Nodup ∧ ss.length ≤ n) → (∀ x ∈ ss, f x ≠ 0) → (∀ x, Edg.ok x → f x ≠ 0 → x ∈ ss) → I ss W → W.heap[D]? = some (.deferred (some [])) → Q .normal { a with defers := { target := .collected D, args := #[] } :: a.defers } W) :
    (Code.rangeFunc g ps assign body).wpIn Fence.wide n0 Try.prog Q a w := by
  have eg : ∀ args w, (callFunc 39 args).run Try.prog w = .ok (.enter 39 args) w := enters_of Try.func39 (by kernel_rfl) rfl
  refine wpIn_rangeFunc ?_
  intro fn hfn
  obtain ⟨rc, hrc⟩ : ∃ rc : LoopState → Option Code → Loop, rc = fun st pe => { state := st, pending := pe, fn, tmps := a.tmps, params := ps, assign, body, defers := w.heap.size } := ⟨_, rfl⟩
  obtain ⟨W1, hW1⟩ : ∃ W1, (w.alloc (.deferred (some []))).alloc (.loop (rc .ready none)) = W1 := ⟨_, rfl⟩
  have hL1 : W1.heap[w.heap.size + 1]? = some (.loop (rc .ready none)) := by rw [← hW1]; exact heap_alloc_at _ _ _ (by simp)
  have hD1 : W1.heap[w.heap.size]? = some (.deferred (some [])) := by rw [← hW1]; exact heap_alloc_lt _ _ _ _ (heap_alloc_at _ _ _ rfl)
  have hbw : Below w.heap.size w W1 := by rw [← hW1]; exact ((Below.refl _ w).alloc (Nat.le_refl _) _).alloc (by simp) _
  have hsz1 : W1.heap.size = w.heap.size + 2 := by rw [← hW1]; simp
  have hI1 : I [] W1 := hI _ _ _ none h0 ⟨hbw.os, hbw.tape, hbw.output, hbw.size, fun k hk _ => hbw.block k hk⟩ (fun r e => by cases e)
  have hbl := heap_lt hbx
  refine ⟨w.heap.size + 1, [{ target := .collected w.heap.size, args := #[] }], W1, { target := .fn (.func 39) #[.pointer (some ⟨bm, 0, none⟩)], args := #[.func (.yield (w.heap.size + 1)) #[] #[]] }, W1, 39, #[.func (.yield (w.heap.size + 1)) #[] #[], .pointer (some ⟨bm, 0, none⟩)], W1, ?_, ?_, ?_, ?_, ?_, ?_⟩
  · rw [← hW1, hrc]; exact run_enterLoop_outer _ _ _ _ _
  · simp only [resolve, hg]
    simp [go_sem]
  · intro f' _; trivial
  · simp [invoke, go_sem, eg]
  · intro h; cases h
  · refine callsIn_wide.2 ((keysIt_any W1 ((hbw.block _ hbl).trans hbx) (hm.below hbw) (w.heap.size + 1) m (fun ss W => I ss W ∧ W.heap[w.heap.size + 1]? = some (.loop (rc .ready none)) ∧ W.heap[w.heap.size]? = some (.deferred (some []))) ?step ?yield ⟨hI1, hL1, hD1⟩).mono ?_)
    case step =>
      rintro ss W W' row ⟨h1, h2, h3⟩ hg' hrow
      have hne : ∀ i, i < w.heap.size + 2 → some i ≠ row := fun i hi e => by
        obtain ⟨q, _⟩ := hrow i e.symm
        omega
      exact ⟨hI _ _ _ _ h1 hg' (fun r e => by obtain ⟨q1, q2⟩ := hrow r e; exact ⟨by omega, q2⟩), (hg'.block _ (heap_lt h2) (hne _ (by omega))).trans h2, (hg'.block _ (heap_lt h3) (hne _ (by omega))).trans h3⟩
    case yield =>
      rintro ss x W ⟨h1, h2, h3⟩ hlen
      have hy := run_yield (P := Try.prog) (args := #[gE x]) h2 (by rw [hrc]; exact hps.symm)
      rw [hrc] at hy
      obtain ⟨W2, hW2⟩ : ∃ W2, W2 = W.alloc (.cells #[.int .i64 x.f, .int .i64 x.t, .int .i64 x.kd, .int .i64 x.k] 33) := ⟨_, rfl⟩
      have hq : W2.heap[W.heap.size]? = some (.cells #[.int .i64 x.f, .int .i64 x.t, .int .i64 x.kd, .int .i64 x.k] 33) := by rw [hW2]; exact heap_alloc_at _ _ _ rfl
      have hg2 : W.grownBy W2 none := by rw [hW2]; exact World.grownBy_alloc _ _ none
      have l2 : W2.heap[w.heap.size + 1]? = some (.loop (rc .ready none)) := (hg2.block _ (heap_lt h2) (by simp)).trans h2
      have d2 : W2.heap[w.heap.size]? = some (.deferred (some [])) := (hg2.block _ (heap_lt h3) (by simp)).trans h3
      have i2 : I ss W2 := hI _ _ _ none h1 hg2 (fun r e => by cases e)
      refine ⟨fn, _, assign, body, hy, roundIn_of_wpIn hfn (hassign _ x W _ ?_)⟩
      rw [← hW2]
      refine ⟨_, run_beginRound l2 (by rw [hrc]), ?_⟩
      obtain ⟨W3, hW3⟩ : ∃ W3, W3 = W2.putObj (w.heap.size + 1) (.loop { rc .ready none with state := .busy }) := ⟨_, rfl⟩
      have l3 : W3.heap[w.heap.size + 1]? = some (.loop { rc .ready none with state := .busy }) := by rw [hW3]; exact World.putObj_heap_same (heap_lt l2)
      have d3 : W3.heap[w.heap.size]? = some (.deferred (some [])) := by rw [hW3]; exact (World.putObj_heap_other (by omega)).trans d2
      have i3 : I ss W3 := by rw [hW3]; exact hP _ _ _ _ _ i2 l2 rfl (by omega)
      have hne : W.heap.size ≠ w.heap.size + 1 := fun e => by have := heap_lt h2; omega
      have q3 : W3.heap[W.heap.size]? = some (.cells #[.int .i64 x.f, .int .i64 x.t, .int .i64 x.kd, .int .i64 x.k] 33) := by rw [hW3]; exact (World.putObj_heap_other hne).trans hq
      rw [← hW3]
      refine wpIn_mono (hbody _ x _ W3 ss hlen i3 q3) ?_
      rintro e a3 W4 hp
      cases e with
      | normal =>
        obtain ⟨⟨s4, k4⟩, i4⟩ := hp
        have l4 := k4 _ (.loop { rc .ready none with state := .busy }) l3 rfl
        have d4 := k4 _ (.deferred (some [])) d3 rfl
        have hr := run_endRound (P := Try.prog) none l4
        obtain ⟨W5, hW5⟩ : ∃ W5, W5 = W4.putObj (w.heap.size + 1) (.loop (rc .ready none)) := ⟨_, rfl⟩
        refine ⟨.bool true, W5, ?_, rfl, ⟨?_, ?_, ?_⟩, ?_⟩
        · rw [hrc] at hr
          rw [hW5, hrc]
          exact hr
        · rw [hW5]
          exact hP _ _ _ _ _ i4 l4 rfl (by omega)
        · rw [hW5]
          exact World.putObj_heap_same (heap_lt l4)
        · rw [hW5]
          exact (World.putObj_heap_other (by omega)).trans d4
        · refine ⟨?_, fun k o hk hw => ?_⟩
          · rw [hW5]
            have e1 : W3.heap.size = W2.heap.size := by rw [hW3]; simp
            have e2 : (W4.putObj (w.heap.size + 1) (.loop (rc .ready none))).heap.size = W4.heap.size := by simp
            have := hg2.size
            omega
          · have hkne : k ≠ w.heap.size + 1 := fun e => by
              rw [e, h2] at hk
              injection hk with hk
              rw [← hk] at hw
              cases hw
            have h5 : W2.heap[k]? = some o := (hg2.block k (heap_lt hk) (by simp)).trans hk
            have h6 : W3.heap[k]? = some o := by rw [hW3]; exact (World.putObj_heap_other hkne).trans h5
            rw [hW5]
            exact (World.putObj_heap_other hkne).trans (k4 _ _ h6 (walk_cells hw))
      | ret => exact hp.elim
      | exit id => exact hp.elim
      | goto t => exact hp.elim
      | panic ch => exact hp.elim
      | outgrown => exact hp.elim
    rintro e W2 ⟨⟨v, rfl⟩, ss, s1, s2, s3, hi, hl, hd⟩
    refine ⟨none, _, by have := run_endLoop (P := Try.prog) hl (by rw [hrc]; simp); rw [hrc] at this; exact this, ?_⟩
    exact hdone _ _ ss (Nat.le_refl _) s1 s2 s3 (hP _ _ _ _ _ hi hl rfl (by omega)) ((World.putObj_heap_other (by omega)).trans hd)
end Go.Proofs.Ytmgkpabagpgilaa.Dg
