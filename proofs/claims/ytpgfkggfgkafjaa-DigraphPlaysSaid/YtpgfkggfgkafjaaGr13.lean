/-
  A loop over a digraph's iterator over numbers: what its body owes. Not a statement of the seat.
-/
import Derived.Test.YtpgfkggfgkafjaaGr12
namespace Go.Proofs.Ytpgfkggfgkafjaa.Gr
open Go.ChangeShapes Go.WideShapes Go.ChangeAt Go.RowKit Go.Shelf Base Ro F Dl Ln
attribute [local go_sem] Oper.semAt_some
theorem between_any {b : Nat} (f t : Nat) (w : World) : Calls Try.prog 50 #[.pointer (some ⟨b, 0, none⟩), .int .u64 (f : Int), .int .u64 (t : Int)] w fun e w' => e = .returned (.func (.func 64) #[] #[.pointer (some ⟨w.heap.size, 0, none⟩), .pointer (some ⟨w.heap.size + 1, 0, none⟩), .pointer (some ⟨w.heap.size + 2, 0, none⟩)]) ∧ w' = ((w.alloc (.cells #[.pointer (some ⟨b, 0, none⟩)] 69)).alloc (.cells #[.int .u64 (f : Int)] 58)).alloc (.cells #[.int .u64 (t : Int)] 58) := by
  go_enter Try.func50, Try.ntmps50
  go_wp2
  go_ret
  exact ⟨rfl, rfl⟩
/-- What a round keeps: what is no cells. -/
def RKc (W W' : World) : Prop := W.heap.size ≤ W'.heap.size ∧ ∀ (g : Nat) (o : Obj), W.heap[g]? = some o → o.isCells = false → W'.heap[g]? = some o
def RPc (I : List Nat → World → Prop) (ss : List Nat) (x : Nat) (W : World) : Exit → Act → World → Prop
  | .normal, _, W' => RKc W W' ∧ I (ss ++ [x]) W'
  | _, _, _ => False
theorem range_bt {c0 c1 c2 b B f t : Nat} {xs : List Nat} {V : Value} {g : Operand} {ps : Array Tmp} {assign body : Code} {Q : Exit → Act → World → Prop} {a : Act} {w0 w : World} {n0 m : Nat}
    (hL : LsAt w0 B V xs) (hgd : GoodX xs) (hps : ps.size = 1)
    (hg : a.eval g = .func (.func 64) #[] #[.pointer (some ⟨c0, 0, none⟩), .pointer (some ⟨c1, 0, none⟩), .pointer (some ⟨c2, 0, none⟩)])
    (I : List Nat → World → Prop) (hI : ∀ ss W W', I ss W → Below W.heap.size W W' → I ss W')
    (hP : ∀ ss W l (o : Obj) o', I ss W → W.heap[l]? = some o → o.isCells = false → w.heap.size ≤ l → I ss (W.putObj l o'))
    (hK : ∀ ss W, I ss W → BtK w0 c0 c1 c2 b f t V W)
    (h0 : I [] w) (a₁ : Nat → Act)
    (hassign : ∀ (l : Nat) (x : Nat) (W : World) (K : Act → World → Prop), K (a₁ x) W →
      assign.wpIn (Fence.wide.inRound l) m Try.prog (Exit.then K (fun _ _ _ => False)) { tmps := (ps.zip #[.int .u64 ((x : Nat) : Int)]).foldl (fun t (p, v) => t.setIfInBounds p v) a.tmps, defers := [] } W)
    (hbody : ∀ (l : Nat) (ss : List Nat) (x : Nat) (rest : List Nat) (W : World), selX xs f t = ss ++ x :: rest → I ss W → body.wpIn (Fence.wide.inRound l) m Try.prog (RPc I ss x W) (a₁ x) W)
    (hdone : ∀ (D : Nat) (W : World), w.heap.size ≤ D → I (selX xs f t) W → W.heap[D]? = some (.deferred (some [])) → Q .normal { a with defers := { target := .collected D, args := #[] } :: a.defers } W) :
    (Code.rangeFunc g ps assign body).wpIn Fence.wide n0 Try.prog Q a w := by
  have eg : ∀ args w, (callFunc 64 args).run Try.prog w = .ok (.enter 64 args) w := enters_of Try.func64 (by kernel_rfl) rfl
  refine wpIn_rangeFunc ?_
  intro fn hfn
  obtain ⟨rc, hrc⟩ : ∃ rc : LoopState → Option Code → Loop, rc = fun st pe => { state := st, pending := pe, fn, tmps := a.tmps, params := ps, assign, body, defers := w.heap.size } := ⟨_, rfl⟩
  obtain ⟨W1, hW1⟩ : ∃ W1, (w.alloc (.deferred (some []))).alloc (.loop (rc .ready none)) = W1 := ⟨_, rfl⟩
  have hL1 : W1.heap[w.heap.size + 1]? = some (.loop (rc .ready none)) := by rw [← hW1]; exact heap_alloc_at _ _ _ (by simp)
  have hD1 : W1.heap[w.heap.size]? = some (.deferred (some [])) := by rw [← hW1]; exact heap_alloc_lt _ _ _ _ (heap_alloc_at _ _ _ rfl)
  have hbw : Below w.heap.size w W1 := by rw [← hW1]; exact ((Below.refl _ w).alloc (Nat.le_refl _) _).alloc (by simp) _
  have hI1 : I [] W1 := hI _ _ _ h0 hbw
  refine ⟨w.heap.size + 1, [{ target := .collected w.heap.size, args := #[] }], W1, { target := .fn (.func 64) #[.pointer (some ⟨c0, 0, none⟩), .pointer (some ⟨c1, 0, none⟩), .pointer (some ⟨c2, 0, none⟩)], args := #[.func (.yield (w.heap.size + 1)) #[] #[]] }, W1, 64, #[.func (.yield (w.heap.size + 1)) #[] #[], .pointer (some ⟨c0, 0, none⟩), .pointer (some ⟨c1, 0, none⟩), .pointer (some ⟨c2, 0, none⟩)], W1, ?_, ?_, ?_, ?_, ?_, ?_⟩
  · rw [← hW1, hrc]; exact run_enterLoop_outer _ _ _ _ _
  · simp only [resolve, hg]
    simp [go_sem]
  · intro f' _; trivial
  · simp [invoke, go_sem, eg]
  · intro h; cases h
  · refine callsIn_wide.2 ((between1_any (c0 := c0) (c1 := c1) (c2 := c2) (b := b) (f := f) (t := t) w0 W1 hL hgd (w.heap.size + 1) m (fun ss W => I ss W ∧ W.heap[w.heap.size + 1]? = some (.loop (rc .ready none)) ∧ W.heap[w.heap.size]? = some (.deferred (some []))) ?step ?keep ?yield ⟨hI1, hL1, hD1⟩).mono ?_)
    case step =>
      rintro ss W W' ⟨h1, h2, h3⟩ hb
      exact ⟨hI _ _ _ h1 hb, (hb.block _ (heap_lt h2)).trans h2, (hb.block _ (heap_lt h3)).trans h3⟩
    case keep =>
      rintro ss W ⟨h1, _, _⟩
      exact hK _ _ h1
    case yield =>
      rintro ss x rest W hsel ⟨h1, h2, h3⟩
      have hy := run_yield (P := Try.prog) (args := #[.int .u64 ((x : Nat) : Int)]) h2 (by rw [hrc]; exact hps.symm)
      rw [hrc] at hy
      refine ⟨fn, _, assign, body, hy, roundIn_of_wpIn hfn (hassign _ x W _ ?_)⟩
      refine ⟨_, run_beginRound h2 (by rw [hrc]), ?_⟩
      obtain ⟨W3, hW3⟩ : ∃ W3, W3 = W.putObj (w.heap.size + 1) (.loop { rc .ready none with state := .busy }) := ⟨_, rfl⟩
      have l3 : W3.heap[w.heap.size + 1]? = some (.loop { rc .ready none with state := .busy }) := by rw [hW3]; exact World.putObj_heap_same (heap_lt h2)
      have d3 : W3.heap[w.heap.size]? = some (.deferred (some [])) := by rw [hW3]; exact (World.putObj_heap_other (by omega)).trans h3
      have i3 : I ss W3 := by rw [hW3]; exact hP _ _ _ _ _ h1 h2 rfl (by omega)
      rw [← hW3]
      refine wpIn_mono (hbody _ ss x rest W3 hsel i3) ?_
      rintro e a3 W4 hp
      cases e with
      | normal =>
        obtain ⟨⟨s4, k4⟩, i4⟩ := hp
        have l4 := k4 _ (.loop { rc .ready none with state := .busy }) l3 rfl
        have d4 := k4 _ (.deferred (some [])) d3 rfl
        have hr := run_endRound (P := Try.prog) none l4
        obtain ⟨W5, hW5⟩ : ∃ W5, W5 = W4.putObj (w.heap.size + 1) (.loop (rc .ready none)) := ⟨_, rfl⟩
        refine ⟨.bool true, W5, ?_, rfl, ?_, ?_, ?_⟩
        · rw [hrc] at hr
          rw [hW5, hrc]
          exact hr
        · rw [hW5]
          exact hP _ _ _ _ _ i4 l4 rfl (by omega)
        · rw [hW5]
          exact World.putObj_heap_same (heap_lt l4)
        · rw [hW5]
          exact (World.putObj_heap_other (by omega)).trans d4
      | ret => exact hp.elim
      | exit id => exact hp.elim
      | goto t => exact hp.elim
      | panic ch => exact hp.elim
      | outgrown => exact hp.elim
    rintro e W2 ⟨⟨v, rfl⟩, hi, hl, hd⟩
    refine ⟨none, _, by have := run_endLoop (P := Try.prog) hl (by rw [hrc]; simp); rw [hrc] at this; exact this, ?_⟩
    exact hdone _ _ (Nat.le_refl _) (hP _ _ _ _ _ hi hl rfl (by omega)) ((World.putObj_heap_other (by omega)).trans hd)
end Go.Proofs.Ytpgfkggfgkafjaa.Gr
