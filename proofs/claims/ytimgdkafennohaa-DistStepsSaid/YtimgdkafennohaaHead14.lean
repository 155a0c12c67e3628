/-
  Contracts of small functions, several texts laid into one. Not a statement of the seat.
-/
import Derived.Test.YtimgdkafennohaaGr12
namespace Go.Proofs.Ytimgdkafennohaa.Gr
open Go.ChangeShapes Go.WideShapes Go.ChangeAt Go.RowKit Go.Shelf Base Ro F Dl Ln
attribute [local go_sem] Oper.semAt_some
theorem between_any {b : Nat} (f t : Nat) (w : World) : Calls Try.prog 45 #[.pointer (some ⟨b, 0, none⟩), .int .u64 (f : Int), .int .u64 (t : Int)] w fun e w' => e = .returned (.func (.func 62) #[] #[.pointer (some ⟨w.heap.size, 0, none⟩), .pointer (some ⟨w.heap.size + 1, 0, none⟩), .pointer (some ⟨w.heap.size + 2, 0, none⟩)]) ∧ w' = ((w.alloc (.cells #[.pointer (some ⟨b, 0, none⟩)] 75)).alloc (.cells #[.int .u64 (f : Int)] 56)).alloc (.cells #[.int .u64 (t : Int)] 56) := by
  go_enter Try.func45, Try.ntmps45
  go_wp2
  go_ret
  exact ⟨rfl, rfl⟩
/-- What a round keeps: what is no cells. -/
def RKc (W W' : World) : Prop := W.heap.size ≤ W'.heap.size ∧ ∀ (g : Nat) (o : Obj), W.heap[g]? = some o → o.isCells = false → W'.heap[g]? = some o
def RPc (I : List Nat → World → Prop) (ss : List Nat) (x : Nat) (W : World) : Exit → Act → World → Prop
  | .normal, _, W' => RKc W W' ∧ I (ss ++ [x]) W'
  | _, _, _ => False
theorem range_bt {c0 c1 c2 b B f t : Nat} {xs : List Nat} {V : Value} {g : Operand} {ps : Array Tmp} {assign body : Code} {Q : Exit → Act → World → Prop} {a : Act} {w0 w : World} {n0 m : Nat}
    (hL : LsAt w0 B V xs) (hgd : GoodX xs) (hps : ps.size = 1)
    (hg : a.eval g = .func (.func 62) #[] #[.pointer (some ⟨c0, 0, none⟩), .pointer (some ⟨c1, 0, none⟩), .pointer (some ⟨c2, 0, none⟩)])
    (I : List Nat → World → Prop) (hI : ∀ ss W W', I ss W → Below W.heap.size W W' → I ss W')
    (hP : ∀ ss W l (o : Obj) o', I ss W → W.heap[l]? = some o → o.isCells = false → w.heap.size ≤ l → I ss (W.putObj l o'))
    (hK : ∀ ss W, I ss W → BtK w0 c0 c1 c2 b f t V W)
    (h0 : I [] w) (a₁ : Nat → Act)
    (hassign : ∀ (l : Nat) (x : Nat) (W : World) (K : Act → World → Prop), K (a₁ x) W →
      assign.wpIn (Fence.wide.inRound l) m Try.prog (Exit.then K (fun _ _ _ => False)) { tmps := (ps.zip #[.int .u64 ((x : Nat) : Int)]).foldl (fun t (p, v) => t.setIfInBounds p v) a.tmps, defers := [] } W)
    (hbody : ∀ (l : Nat) (ss : List Nat) (x : Nat) (rest : List Nat) (W : World), selX xs f t = ss ++ x :: rest → I ss W → body.wpIn (Fence.wide.inRound l) m Try.prog (RPc I ss x W) (a₁ x) W)
    (hdone : ∀ (D : Nat) (W : World), w.heap.size ≤ D → I (selX xs f t) W → W.heap[D]? = some (.deferred (some [])) → Q .normal { a with defers := { target := .collected D, args := #[] } :: a.defers } W) :
    (Code.rangeFunc g ps assign body).wpIn Fence.wide n0 Try.prog Q a w := by
  have eg : ∀ args w, (callFunc 62 args).run Try.prog w = .ok (.enter 62 args) w := enters_of Try.func62 (by kernel_rfl) rfl
  refine wpIn_rangeFunc ?_
  intro fn hfn
  obtain ⟨rc, hrc⟩ : ∃ rc : LoopState → Option Code → Loop, rc = fun st pe => { state := st, pending := pe, fn, tmps := a.tmps, params := ps, assign, body, defers := w.heap.size } := ⟨_, rfl⟩
  obtain ⟨W1, hW1⟩ : ∃ W1, (w.alloc (.deferred (some []))).alloc (.loop (rc .ready none)) = W1 := ⟨_, rfl⟩
  have hL1 : W1.heap[w.heap.size + 1]? = some (.loop (rc .ready none)) := by rw [← hW1]; exact heap_alloc_at _ _ _ (by simp)
  have hD1 : W1.heap[w.heap.size]? = some (.deferred (some [])) := by rw [← hW1]; exact heap_alloc_lt _ _ _ _ (heap_alloc_at _ _ _ rfl)
  have hbw : Below w.heap.size w W1 := by rw [← hW1]; exact ((Below.refl _ w).alloc (Nat.le_refl _) _).alloc (by simp) _
  have hI1 : I [] W1 := hI _ _ _ h0 hbw
  refine ⟨w.heap.size + 1, [{ target := .collected w.heap.size, args := #[] }], W1, { target := .fn (.func 62) #[.pointer (some ⟨c0, 0, none⟩), .pointer (some ⟨c1, 0, none⟩), .pointer (some ⟨c2, 0, none⟩)], args := #[.func (.yield (w.heap.size + 1)) #[] #[]] }, W1, 62, #[.func (.yield (w.heap.size + 1)) #[] #[], .pointer (some ⟨c0, 0, none⟩), .pointer (some ⟨c1, 0, none⟩), .pointer (some ⟨c2, 0, none⟩)], W1, ?_, ?_, ?_, ?_, ?_, ?_⟩
  · rw [← hW1, hrc]; exact run_enterLoop_outer _ _ _ _ _
  · simp only [resolve, hg]
    simp [go_sem]
  · intro f' _; trivial
  · simp [invoke, go_sem, eg]
  · intro h; cases h
  · refine callsIn_wide.2 ((between1_any (c0 := c0) (c1 := c1) (c2 := c2) (b := b) (f := f) (t := t) w0 W1 hL hgd (w.heap.size + 1) m (fun ss W => I ss W ∧ W.heap[w.heap.size + 1]? = some (.loop (rc .ready none)) ∧ W.heap[w.heap.size]? = some (.deferred (some []))) ?step ?keep ?yield ⟨hI1, hL1, hD1⟩).mono ?_)
    case step =>
      rintro ss W W' ⟨h1, h2, h3⟩ hb
      exact ⟨hI _ _ _ h1 hb, (hb.block _ (heap_lt h2)).trans h2, (hb.block _ (heap_lt h3)).trans h3⟩
    case keep =>
      rintro ss W ⟨h1, _, _⟩
      exact hK _ _ h1
    case yield =>
      rintro ss x rest W hsel ⟨h1, h2, h3⟩
      have hy := run_yield (P := Try.prog) (args := #[.int .u64 ((x : Nat) : Int)]) h2 (by rw [hrc]; exact hps.symm)
      rw [hrc] at hy
      refine ⟨fn, _, assign, body, hy, roundIn_of_wpIn hfn (hassign _ x W _ ?_)⟩
      refine ⟨_, run_beginRound h2 (by rw [hrc]), ?_⟩
      obtain ⟨W3, hW3⟩ : ∃ W3, W3 = W.putObj (w.heap.size + 1) (.loop { rc .ready none with state := .busy }) := ⟨_, rfl⟩
      have l3 : W3.heap[w.heap.size + 1]? = some (.loop { rc .ready none with state := .busy }) := by rw [hW3]; exact World.putObj_heap_same (heap_lt h2)
      have d3 : W3.heap[w.heap.size]? = some (.deferred (some [])) := by rw [hW3]; exact (World.putObj_heap_other (by omega)).trans h3
      have i3 : I ss W3 := by rw [hW3]; exact hP _ _ _ _ _ h1 h2 rfl (by omega)
      rw [← hW3]
      refine wpIn_mono (hbody _ ss x rest W3 hsel i3) ?_
      rintro e a3 W4 hp
      cases e with
      | normal =>
        obtain ⟨⟨s4, k4⟩, i4⟩ := hp
        have l4 := k4 _ (.loop { rc .ready none with state := .busy }) l3 rfl
        have d4 := k4 _ (.deferred (some [])) d3 rfl
        have hr := run_endRound (P := Try.prog) none l4
        obtain ⟨W5, hW5⟩ : ∃ W5, W5 = W4.putObj (w.heap.size + 1) (.loop (rc .ready none)) := ⟨_, rfl⟩
        refine ⟨.bool true, W5, ?_, rfl, ?_, ?_, ?_⟩
        · rw [hrc] at hr
          rw [hW5, hrc]
          exact hr
        · rw [hW5]
          exact hP _ _ _ _ _ i4 l4 rfl (by omega)
        · rw [hW5]
          exact World.putObj_heap_same (heap_lt l4)
        · rw [hW5]
          exact (World.putObj_heap_other (by omega)).trans d4
      | ret => exact hp.elim
      | exit id => exact hp.elim
      | goto t => exact hp.elim
      | panic ch => exact hp.elim
      | outgrown => exact hp.elim
    rintro e W2 ⟨⟨v, rfl⟩, hi, hl, hd⟩
    refine ⟨none, _, by have := run_endLoop (P := Try.prog) hl (by rw [hrc]; simp); rw [hrc] at this; exact this, ?_⟩
    exact hdone _ _ (Nat.le_refl _) (hP _ _ _ _ _ hi hl rfl (by omega)) ((World.putObj_heap_other (by omega)).trans hd)
end Go.Proofs.Ytimgdkafennohaa.Gr
namespace Go.Proofs.Ytimgdkafennohaa.Gr
open Go.ChangeShapes Go.WideShapes Go.ChangeAt Go.RowKit Go.Shelf Base Ro F Dl Ln
attribute [local go_sem] Oper.semAt_some
/-- The arc of a number. -/
def arcX (x : Nat) : Arc := ⟨((x / 17179869184 : Nat) : Int), ((x % 4096 : Nat) : Int), ((x / 4294967296 % 4 : Nat) : Int), ((x / 4096 % 1048576 : Nat) : Int)⟩
theorem arcX_num (x : Nat) : ((x : Nat) : Int) = numI (arcX x).fr (arcX x).to (arcX x).kd (arcX x).lb := by
  unfold arcX numI
  dsimp only
  omega
theorem arcx_any (x : Nat) (hx : x < 70368744177664) (w : World) : Calls Try.prog 46 #[.int .u64 (x : Int)] w fun e w' => e = .returned (.agg #[.int .i64 (arcX x).fr, .int .i64 (arcX x).to, .int .i64 (arcX x).kd, .int .i64 (arcX x).lb]) ∧ Below w.heap.size w w' := by
  have h := arc_any (arcX x).fr (arcX x).to (arcX x).kd (arcX x).lb (by unfold arcX; dsimp only; omega) (by unfold arcX; dsimp only; omega) (by unfold arcX; dsimp only; omega) (by unfold arcX; dsimp only; omega) (by unfold arcX; dsimp only; omega) (by unfold arcX; dsimp only; omega) (by unfold arcX; dsimp only; omega) (by unfold arcX; dsimp only; omega) w
  rw [← arcX_num] at h
  exact h
theorem ownA_form {B : Nat} {w : World} {v : Value} {zs : List Arc} (h : OwnArc B w v zs) : (zs = [] ∧ v = .slice none 0 0) ∨ ∃ g cap, v = .slice (some ⟨g, 0, none⟩) zs.length cap ∧ B ≤ g ∧ g < w.heap.size ∧ zs.length ≤ cap := by
  rcases h.2 with ⟨hv, h0⟩ | ⟨g, cap, cur, hv, hB, hg, hc, _⟩
  · exact .inl ⟨List.length_eq_zero_iff.1 h0, hv⟩
  · exact .inr ⟨g, cap, hv, hB, heap_lt hg, hc⟩
theorem ownA_same {B : Nat} {w w' : World} {v : Value} {zs : List Arc} (h : OwnArc B w v zs) (hb : ∀ g, v.ownBlock = some g → w'.heap[g]? = w.heap[g]?) : OwnArc B w' v zs := by
  obtain ⟨h1, h2⟩ := h
  refine ⟨h1, ?_⟩
  rcases h2 with h2 | ⟨g, cap, cur, hv, hB, hg, h3⟩
  · exact .inl h2
  · exact .inr ⟨g, cap, cur, hv, hB, (hb g (by rw [hv]; rfl)).trans hg, h3⟩
theorem ownA_cells {B : Nat} {w : World} {v : Value} {zs : List Arc} (h : OwnArc B w v zs) {g : Nat} (hg : v.ownBlock = some g) : B ≤ g ∧ g < w.heap.size ∧ ∃ cur, w.heap[g]? = some (Obj.cells cur 32 (0, 0)) := by
  rcases h.2 with ⟨hv, _⟩ | ⟨g', cap, cur, hv, hB, hg', h3⟩
  · rw [hv] at hg; cases hg
  · rw [hv] at hg
    injection hg with hg
    subst hg
    exact ⟨hB, heap_lt hg', _, hg'⟩
theorem ownA_snoc {B : Nat} {w : World} {v : Value} {xs : List Arc} {x : Arc} {k : Nat} (h : OwnArc B w v (xs ++ [x])) (hk : xs.length = k) : ∃ p c, v = .slice p (k + 1) c := by
  rcases ownA_form h with ⟨hz, _⟩ | ⟨g, cap, hv, _⟩
  · simp at hz
  · exact ⟨_, _, by rw [hv, List.length_append, hk]; rfl⟩
/-- append, as one step of a region within a round. -/
theorem stepIn_append_arcs {F : Fence} {n : Nat} {ops : Array Oper} {o : Oper} {a : Act} {w : World} {K : Act → World → Prop} {Q : Exit → Act → World → Prop} {E : Prop} (hgd : o.guard = none) (s x : Operand)
    (ho : o.op = .call { callee := .builtin .append, args := #[s, x], argTypes := #[22, 22] }) {B base : Nat} {v u : Value} {zs ys : List Arc}
    (hB : B ≤ w.heap.size) (hown : OwnArc B w v zs) (hs : a.eval s = v) (hys : Arcs base w u ys) (hx : a.eval x = u) (hl : zs.length + ys.length ≤ 1000000)
    (hK : ∀ v' w', OwnArc B w' v' (zs ++ ys) → w.grownBy w' v.ownBlock → (v'.ownBlock = v.ownBlock ∨ v'.ownBlock = some w.heap.size) → K (a.put o.dst v') w') :
    if Region.wanted o (yielded ops a.tmps) = true then Oper.wpIn F n Try.prog o a w K Q else E := by
  rw [if_pos (by simp [Region.wanted, hgd])]
  obtain ⟨v', w', hr, h2, h3, h5⟩ := run_append_arcs o.type hB hown hys hl
  unfold Oper.wpIn
  refine ⟨?_, ?_⟩
  · simp [Oper.about, ho, resolve, Target.leads, Sem.run_pure]
  · rw [Oper.semAt_plain F _ _ (by rw [ho]; intro c hc; cases hc)]
    simp [execOp, ho, resolve, invoke, builtin, hs, hx, hr, Result.andThen]
    exact hK _ _ h2 h3 h5
/-- What the loop holds: the slice in its box, the iterator's boxes, what lay ahead. -/
def GI (w0 : World) (E b c0 c1 c2 f t : Nat) (zs : List Arc) (ss : List Nat) (W : World) : Prop :=
  Below w0.heap.size w0 W ∧ (∃ v, W.heap[E]? = some (.cells #[v] 22) ∧ OwnArc w0.heap.size W v (zs ++ ss.map arcX)) ∧
  W.heap[c0]? = some (.cells #[.pointer (some ⟨b, 0, none⟩)] 75) ∧ W.heap[c1]? = some (.cells #[.int .u64 (f : Int)] 56) ∧ W.heap[c2]? = some (.cells #[.int .u64 (t : Int)] 56)
theorem GI.below {w0 W W' : World} {E b c0 c1 c2 f t : Nat} {zs : List Arc} {ss : List Nat} (h : GI w0 E b c0 c1 c2 f t zs ss W) (hb : Below W.heap.size W W') : GI w0 E b c0 c1 c2 f t zs ss W' := by
  obtain ⟨h1, ⟨v, h2, h3⟩, h4, h5, h6⟩ := h
  exact ⟨h1.trans (hb.mono h1.size), ⟨v, (hb.block _ (heap_lt h2)).trans h2, h3.below hb⟩, (hb.block _ (heap_lt h4)).trans h4, (hb.block _ (heap_lt h5)).trans h5, (hb.block _ (heap_lt h6)).trans h6⟩
theorem GI.put {w0 W : World} {E b c0 c1 c2 f t l : Nat} {zs : List Arc} {ss : List Nat} {o : Obj} (o' : Obj) (h : GI w0 E b c0 c1 c2 f t zs ss W) (hl : W.heap[l]? = some o) (hc : o.isCells = false) (hw : w0.heap.size ≤ l) : GI w0 E b c0 c1 c2 f t zs ss (W.putObj l o') := by
  obtain ⟨h1, ⟨v, h2, h3⟩, h4, h5, h6⟩ := h
  have key : ∀ (g : Nat) (cs : Array Value) (T : TypeId), W.heap[g]? = some (Obj.cells cs T (0, 0)) → (W.putObj l o').heap[g]? = some (Obj.cells cs T (0, 0)) := fun g cs T hg => by
    refine (World.putObj_heap_other (fun e => ?_)).trans hg
    rw [e, hl] at hg
    injection hg with hg
    rw [hg] at hc
    cases hc
  refine ⟨h1.grown (row := some l) ⟨rfl, rfl, rfl, by simp, fun k _ hk => World.putObj_heap_other (fun e => hk (by rw [e]))⟩ h1.size (fun k e => by cases e; exact hw), ⟨v, key _ _ _ h2, ownA_same h3 fun g hg => ?_⟩, key _ _ _ h4, key _ _ _ h5, key _ _ _ h6⟩
  obtain ⟨_, _, cur, hcur⟩ := ownA_cells h3 hg
  exact (key _ _ _ hcur).trans hcur.symm
theorem GI.bt {w0 W : World} {E b c0 c1 c2 f t : Nat} {zs : List Arc} {ss : List Nat} {V : Value} {m : Nat} {N P : Value} (h : GI w0 E b c0 c1 c2 f t zs ss W) (hb : w0.heap[b]? = some (grB V m N P)) : BtK w0 c0 c1 c2 b f t V W := by
  obtain ⟨h1, _, h4, h5, h6⟩ := h
  have k := (h1.block b (heap_lt hb)).trans hb
  exact ⟨⟨by simp [World.cell?, h4], by simp [World.cell?, h5], by simp [World.cell?, h6]⟩, heap_lt k, (gr_cells k).1, fun g cs T hg _ => h1.block g (heap_lt hg)⟩
theorem set_boxA (W : World) (b : Nat) (v v' : Value) (T : TypeId) (h : W.heap[b]? = some (.cells #[v] T)) : (W.setCell ⟨b, 0, none⟩ v').heap[b]? = some (.cells #[v'] T) ∧ (∀ g, g ≠ b → (W.setCell ⟨b, 0, none⟩ v').heap[g]? = W.heap[g]?) ∧ (W.setCell ⟨b, 0, none⟩ v').heap.size = W.heap.size := by
  refine ⟨by simp [World.setCell, Array.getElem?_modify, h], fun g hg => by simp [World.setCell, Array.getElem?_modify, Ne.symm hg], by simp [World.setCell]⟩
theorem GI.round {w0 W w2 w5 : World} {E b c0 c1 c2 f t x : Nat} {zs : List Arc} {ss : List Nat} {v v5 : Value} {ob : Obj} (h : GI w0 E b c0 c1 c2 f t zs ss W) (hE : w0.heap.size ≤ E) (hv : W.heap[E]? = some (.cells #[v] 22)) (hb2 : Below W.heap.size W w2) (h5 : OwnArc w0.heap.size w5 v5 ((zs ++ ss.map arcX) ++ [arcX x])) (hg : (w2.alloc ob).grownBy w5 v.ownBlock) (ho : OwnArc w0.heap.size W v (zs ++ ss.map arcX)) :
    RKc W (w5.setCell ⟨E, 0, none⟩ v5) ∧ GI w0 E b c0 c1 c2 f t zs (ss ++ [x]) (w5.setCell ⟨E, 0, none⟩ v5) := by
  obtain ⟨h1, _, h4, hc1, hc2⟩ := h
  have hB := hb2.alloc hb2.size ob
  have hsz : W.heap.size ≤ w2.heap.size := hb2.size
  have old : ∀ g, g < W.heap.size → v.ownBlock ≠ some g → w5.heap[g]? = W.heap[g]? := fun g hlt hne => (hg.block g (by have := hB.size; omega) (fun e => hne e.symm)).trans (hB.block g hlt)
  have kind : ∀ (g : Nat) (o : Obj), W.heap[g]? = some o → (∀ cur, o ≠ Obj.cells cur 32 (0, 0)) → v.ownBlock ≠ some g := fun g o hgo hne e => by
    obtain ⟨_, _, cur, hcur⟩ := ownA_cells ho e
    rw [hgo] at hcur
    injection hcur with hcur
    exact hne cur hcur
  have hE5 : w5.heap[E]? = some (.cells #[v] 22) := (old E (heap_lt hv) (kind E _ hv fun cur e => by injection e with _ e; exact absurd e (by decide))).trans hv
  obtain ⟨s1, s2, s3⟩ := set_boxA w5 E v v5 _ hE5
  have hgs := hg.size
  have hBs := hB.size
  have q2 : Below w0.heap.size W w5 := (hB.mono h1.size).grown hg (by have := h1.size; omega) (fun g e => (ownA_cells ho e).1)
  have hbw : Below w0.heap.size W (w5.setCell ⟨E, 0, none⟩ v5) := q2.setCell (p := ⟨E, 0, none⟩) hE _
  have keep : ∀ (g : Nat) (cs : Array Value) (T : TypeId), W.heap[g]? = some (Obj.cells cs T (0, 0)) → T ≠ 32 → T ≠ 22 → (w5.setCell ⟨E, 0, none⟩ v5).heap[g]? = some (Obj.cells cs T (0, 0)) := fun g cs T hgo hT hT2 => by
    have n1 : g ≠ E := fun e => by
      rw [e, hv] at hgo; injection hgo with hgo; injection hgo with _ hgo; exact hT2 hgo.symm
    exact (s2 g n1).trans ((old g (heap_lt hgo) (kind g _ hgo fun cur e => by injection e with _ e; exact hT e)).trans hgo)
  refine ⟨⟨by omega, fun g o2 hgo hc => ?_⟩, h1.trans hbw, ⟨v5, s1, ?_⟩, keep _ _ _ h4 (by decide) (by decide), keep _ _ _ hc1 (by decide) (by decide), keep _ _ _ hc2 (by decide) (by decide)⟩
  · have n1 : g ≠ E := fun e => by
      rw [e, hv] at hgo; injection hgo with hgo; rw [← hgo] at hc; cases hc
    have n2 : v.ownBlock ≠ some g := kind g _ hgo fun cur e => by rw [e] at hc; cases hc
    exact (s2 g n1).trans ((old g (heap_lt hgo) n2).trans hgo)
  · rw [List.map_append, ← List.append_assoc]
    exact ownA_same h5 fun g hg' => s2 g (fun e => by
      obtain ⟨_, _, cur, hcur⟩ := ownA_cells h5 hg'
      rw [e, hE5] at hcur
      injection hcur with hcur; injection hcur with _ hcur; exact absurd hcur (by decide))
theorem joinA {P : Prop} (J G : World → Prop) (h1 : (∀ u, J u → G u) → P) (h2 : ∀ u, J u → G u) : P := h1 h2
end Go.Proofs.Ytimgdkafennohaa.Gr
