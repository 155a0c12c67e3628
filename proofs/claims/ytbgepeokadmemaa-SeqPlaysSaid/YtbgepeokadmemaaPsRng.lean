/-
  A loop over the sequences' iterator: what its body owes. Not a statement of the seat.
-/
import Derived.Test.YtbgepeokadmemaaPsEach
namespace Go.Proofs.Ytbgepeokadmemaa.F
open Go.ChangeShapes Go.WideShapes Go.ChangeAt Go.RowKit Go.Shelf Base
/-- What a round keeps: what lay ahead of w0, what is no cells, the iterator's own blocks. -/
def RK (B : Nat) (S : Nat → Prop) (W W' : World) : Prop := Below B W W' ∧ (∀ (g : Nat) (o : Obj), W.heap[g]? = some o → o.isCells = false → W'.heap[g]? = some o) ∧ ∀ g, S g → W'.heap[g]? = W.heap[g]?
/-- How a round may be left: it goes on, or the function returns. -/
def RPost (B : Nat) (S : Nat → Prop) (Ic : Nat → World → (Nat → Prop) → Prop) (Ix : Nat → World → (Nat → Prop) → Prop) (k : Nat) (W : World) : Exit → Act → World → Prop
  | .normal, _, W' => RK B S W W' ∧ Ic (k + 1) W' S
  | .ret, _, W' => RK B S W W' ∧ Ix k W' S
  | _, _, _ => False
theorem put_same {W : World} {l g : Nat} {o : Obj} (h : g ≠ l) : (W.putObj l o).heap[g]? = W.heap[g]? := World.putObj_heap_other h
theorem below_put {B : Nat} {W : World} {l : Nat} {o o' : Obj} (hl : B ≤ l) (h : W.heap[l]? = some o) : Below B W (W.putObj l o') :=
  (Below.refl B W).grown (grownBy_putObj' W l o') (by have := (Array.getElem?_eq_some_iff.1 h).1; omega) (fun k e => by cases e; exact hl)
theorem range_each {pv : Value} {o : Option Nat} {room : Nat} {zs : List Cel} {w0 : World} {t : Tre} {root : Int} (h : ArV w0 pv o room zs) (ht : Tr zs t root) (hsz : t.size < 65536)
    {g : Operand} {ps : Array Tmp} {assign body : Code} {Q : Exit → Act → World → Prop} {a : Act} {w : World} {n m : Nat} (hw : Below w0.heap.size w0 w) (hps : ps.size = 2)
    (hg : a.eval g = .func (.func 42) #[.agg #[pv, .int .i64 root]] #[])
    (Ic : Nat → World → (Nat → Prop) → Prop) (Ix : Nat → World → (Nat → Prop) → Prop)
    (hS : ∀ k W W' S, Ic k W S → Fr S W W' → Ic k W' (SN S W W'))
    (hM : ∀ k W S S', Ic k W S → (∀ g, S' g → S g) → Ic k W S')
    (hP : ∀ k W S l (o : Obj) o', Ic k W S → W.heap[l]? = some o → o.isCells = false → w.heap.size ≤ l → Ic k (W.putObj l o') S)
    (hPx : ∀ k W S l (o : Obj) o', Ix k W S → W.heap[l]? = some o → o.isCells = false → w.heap.size ≤ l → Ix k (W.putObj l o') S)
    (h0 : Ic 0 w (fun _ => False)) (a₁ : Nat → Act)
    (hassign : ∀ (l k : Nat) (W : World) (K : Act → World → Prop), K (a₁ k) W →
      assign.wpIn (Fence.wide.inRound l) m Try.prog (Exit.then K (fun _ _ _ => False)) { tmps := (ps.zip #[.int .i64 (k : Int), .int .i64 (t.vals.getD k 0)]).foldl (fun t (p, v) => t.setIfInBounds p v) a.tmps, defers := [] } W)
    (hbody : ∀ (l k : Nat) (W : World) (S : Nat → Prop), k < t.size → Ic k W S → body.wpIn (Fence.wide.inRound l) m Try.prog (RPost w0.heap.size S Ic Ix k W) (a₁ k) W)
    (hdone : ∀ (D : Nat) (W : World) (S : Nat → Prop), w.heap.size ≤ D → Ic t.size W S → W.heap[D]? = some (.deferred (some [])) → Q .normal { a with defers := { target := .collected D, args := #[] } :: a.defers } W)
    (hstop : ∀ (D k : Nat) (W : World) (S : Nat → Prop), w.heap.size ≤ D → k < t.size → Ix k W S → W.heap[D]? = some (.deferred (some [])) → Code.ret.wpIn Fence.wide n Try.prog Q { a with defers := { target := .collected D, args := #[] } :: a.defers } W) :
    (Code.rangeFunc g ps assign body).wpIn Fence.wide n Try.prog Q a w := by
  have eg : ∀ args w, (callFunc 42 args).run Try.prog w = .ok (.enter 42 args) w := enters_of Try.func42 (by kernel_rfl) rfl
  refine wpIn_rangeFunc ?_
  intro fn hfn
  obtain ⟨rc, hrc⟩ : ∃ rc : LoopState → Option Code → Loop, rc = fun st pe => { state := st, pending := pe, fn, tmps := a.tmps, params := ps, assign, body, defers := w.heap.size } := ⟨_, rfl⟩
  obtain ⟨W1, hW1⟩ : ∃ W1, (w.alloc (.deferred (some []))).alloc (.loop (rc .ready none)) = W1 := ⟨_, rfl⟩
  have hL1 : W1.heap[w.heap.size + 1]? = some (.loop (rc .ready none)) := by rw [← hW1]; exact heap_alloc_at _ _ _ (by simp)
  have hD1 : W1.heap[w.heap.size]? = some (.deferred (some [])) := by rw [← hW1]; exact heap_alloc_lt _ _ _ _ (heap_alloc_at _ _ _ rfl)
  have hbw : Below w.heap.size w W1 := by rw [← hW1]; exact ((Below.refl _ w).alloc (Nat.le_refl _) _).alloc (by simp) _
  have hsz1 : W1.heap.size = w.heap.size + 2 := by rw [← hW1]; simp
  have hI1 : Ic 0 W1 (fun _ => False) := hM _ _ _ _ (hS _ _ _ _ h0 (Fr.of_below hbw)) (fun g hg => hg.elim)
  have hww := hw.size
  refine ⟨w.heap.size + 1, [{ target := .collected w.heap.size, args := #[] }], W1, { target := .fn (.func 42) #[], args := #[.agg #[pv, .int .i64 root], .func (.yield (w.heap.size + 1)) #[] #[]] }, W1, 42, #[.agg #[pv, .int .i64 root], .func (.yield (w.heap.size + 1)) #[] #[]], W1, ?_, ?_, ?_, ?_, ?_, ?_⟩
  · rw [← hW1, hrc]; exact run_enterLoop_outer _ _ _ _ _
  · simp only [resolve, hg]
    simp [go_sem]
  · intro f' _; trivial
  · simp [invoke, go_sem, eg]
  · intro h; cases h
  · refine callsIn_wide.2 ((each_any h ht hsz (w.heap.size + 1) m (fun k W S => Ic k W S ∧ W.heap[w.heap.size + 1]? = some (.loop (rc .ready none)) ∧ W.heap[w.heap.size]? = some (.deferred (some [])) ∧ ¬ S (w.heap.size + 1) ∧ ¬ S w.heap.size)
      (fun k W S => Ix k W S ∧ W.heap[w.heap.size + 1]? = some (.loop (rc .done (some .ret))) ∧ W.heap[w.heap.size]? = some (.deferred (some []))) ?step ?yield W1 (hw.trans (hbw.mono hw.size)) ⟨hI1, hL1, hD1, id, id⟩).mono ?_)
    case step =>
      rintro k W W' S ⟨h1, h2, h3, h4, h5⟩ hf
      exact ⟨hS _ _ _ _ h1 hf, (hf.block (heap_lt h2) h4).trans h2, (hf.block (heap_lt h3) h5).trans h3, fun e => e.elim h4 (fun e => by have := heap_lt h2; omega), fun e => e.elim h5 (fun e => by have := heap_lt h3; omega)⟩
    case yield =>
      rintro k W S hk ⟨h1, h2, h3, h4, h5⟩
      have hy := run_yield (P := Try.prog) (args := #[.int .i64 (k : Int), .int .i64 (t.vals.getD k 0)]) h2 (by rw [hrc]; exact hps.symm)
      rw [hrc] at hy
      refine ⟨fn, _, assign, body, hy, roundIn_of_wpIn hfn (hassign _ k W _ ⟨_, run_beginRound h2 (by rw [hrc]), ?_⟩)⟩
      have hb2 : Below w0.heap.size W (W.putObj (w.heap.size + 1) (.loop { rc .ready none with state := .busy })) := below_put (by omega) h2
      have hl2 : (W.putObj (w.heap.size + 1) (.loop { rc .ready none with state := .busy })).heap[w.heap.size + 1]? = some (.loop { rc .ready none with state := .busy }) := World.putObj_heap_same (heap_lt h2)
      have hd2 : (W.putObj (w.heap.size + 1) (.loop { rc .ready none with state := .busy })).heap[w.heap.size]? = some (.deferred (some [])) := (put_same (by omega)).trans h3
      refine wpIn_mono (hbody _ k _ S hk (hP k W S _ _ _ h1 h2 rfl (by omega))) ?_
      have fin : ∀ (jump : Option Code) (W3 : World), RK w0.heap.size S (W.putObj (w.heap.size + 1) (.loop { rc .ready none with state := .busy })) W3 →
          (Instr.endRound (w.heap.size + 1) jump).run Try.prog W3 = .ok (.bool jump.isNone) (W3.putObj (w.heap.size + 1) (.loop (rc (if jump.isNone then .ready else .done) jump))) ∧
          W3.heap[w.heap.size + 1]? = some (.loop { rc .ready none with state := .busy }) ∧
          (W3.putObj (w.heap.size + 1) (.loop (rc (if jump.isNone then .ready else .done) jump))).heap[w.heap.size + 1]? = some (.loop (rc (if jump.isNone then .ready else .done) jump)) ∧
          (W3.putObj (w.heap.size + 1) (.loop (rc (if jump.isNone then .ready else .done) jump))).heap[w.heap.size]? = some (.deferred (some [])) ∧
          Below w0.heap.size W (W3.putObj (w.heap.size + 1) (.loop (rc (if jump.isNone then .ready else .done) jump))) ∧
          (∀ g, S g → (W3.putObj (w.heap.size + 1) (.loop (rc (if jump.isNone then .ready else .done) jump))).heap[g]? = W.heap[g]?) := fun jump W3 ⟨k1, k2, k3⟩ => by
        have hl3 := k2 _ _ hl2 rfl
        have hr := run_endRound (P := Try.prog) jump hl3
        refine ⟨?_, hl3, World.putObj_heap_same (heap_lt hl3), (put_same (by omega)).trans (k2 _ _ hd2 rfl), hb2.trans (k1.trans (below_put (by omega) hl3)), fun g hg => ?_⟩
        · rw [hrc] at hr ⊢
          exact hr
        · have hne : g ≠ w.heap.size + 1 := fun e => h4 (e ▸ hg)
          exact (put_same hne).trans ((k3 g hg).trans (put_same hne))
      rintro e a3 W3 hp
      cases e with
      | normal =>
        obtain ⟨hk3, hi3⟩ := hp
        obtain ⟨hr, hl3, hl4, hd4, hb4, hs4⟩ := fin none W3 hk3
        exact ⟨_, _, hr, .inl ⟨rfl, ⟨hP _ _ _ _ _ _ hi3 hl3 rfl (by omega), hl4, hd4, h4, h5⟩, hb4, hs4⟩⟩
      | ret =>
        obtain ⟨hk3, hi3⟩ := hp
        obtain ⟨hr, hl3, hl4, hd4, hb4, hs4⟩ := fin (some .ret) W3 hk3
        exact ⟨_, _, hr, .inr ⟨rfl, hPx _ _ _ _ _ _ hi3 hl3 rfl (by omega), hl4, hd4⟩⟩
      | exit id => exact hp.elim
      | goto t => exact hp.elim
      | panic ch => exact hp.elim
      | outgrown => exact hp.elim
    rintro e W2 ⟨⟨v, rfl⟩, (⟨S, hi, hl, hd, _⟩ | ⟨k, S, hk, hi, hl, hd⟩)⟩
    · refine ⟨none, _, by have := run_endLoop (P := Try.prog) hl (by rw [hrc]; simp); rw [hrc] at this; exact this, ?_⟩
      exact hdone _ _ S (Nat.le_refl _) (hP _ _ _ _ _ _ hi hl rfl (by omega)) ((put_same (by omega)).trans hd)
    · refine ⟨some .ret, _, by have := run_endLoop (P := Try.prog) hl (by rw [hrc]; simp); rw [hrc] at this; exact this, ?_⟩
      exact hstop _ k _ S (Nat.le_refl _) hk (hPx _ _ _ _ _ _ hi hl rfl (by omega)) ((put_same (by omega)).trans hd)
end Go.Proofs.Ytbgepeokadmemaa.F
