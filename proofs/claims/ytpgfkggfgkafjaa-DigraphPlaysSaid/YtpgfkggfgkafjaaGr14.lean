/-
  Contract of a digraph's gather: a node's arcs of a mask are put behind a slice of the call's own. Not a statement of the seat.
-/
import Derived.Test.YtpgfkggfgkafjaaGr13
namespace Go.Proofs.Ytpgfkggfgkafjaa.Gr
open Go.ChangeShapes Go.WideShapes Go.ChangeAt Go.RowKit Go.Shelf Base Ro F Dl Ln
attribute [local go_sem] Oper.semAt_some
/-- The arc of a number. -/
def arcX (x : Nat) : Arc := ⟨((x / 17179869184 : Nat) : Int), ((x % 4096 : Nat) : Int), ((x / 4294967296 % 4 : Nat) : Int), ((x / 4096 % 1048576 : Nat) : Int)⟩
theorem arcX_num (x : Nat) : ((x : Nat) : Int) = numI (arcX x).fr (arcX x).to (arcX x).kd (arcX x).lb := by
  unfold arcX numI
  dsimp only
  omega
theorem arcx_any (x : Nat) (hx : x < 70368744177664) (w : World) : Calls Try.prog 51 #[.int .u64 (x : Int)] w fun e w' => e = .returned (.agg #[.int .i64 (arcX x).fr, .int .i64 (arcX x).to, .int .i64 (arcX x).kd, .int .i64 (arcX x).lb]) ∧ Below w.heap.size w w' := by
  have h := arc_any (arcX x).fr (arcX x).to (arcX x).kd (arcX x).lb (by unfold arcX; dsimp only; omega) (by unfold arcX; dsimp only; omega) (by unfold arcX; dsimp only; omega) (by unfold arcX; dsimp only; omega) (by unfold arcX; dsimp only; omega) (by unfold arcX; dsimp only; omega) (by unfold arcX; dsimp only; omega) (by unfold arcX; dsimp only; omega) w
  rw [← arcX_num] at h
  exact h
theorem ownA_form {B : Nat} {w : World} {v : Value} {zs : List Arc} (h : OwnArc B w v zs) : (zs = [] ∧ v = .slice none 0 0) ∨ ∃ g cap, v = .slice (some ⟨g, 0, none⟩) zs.length cap ∧ B ≤ g ∧ g < w.heap.size ∧ zs.length ≤ cap := by
  rcases h.2 with ⟨hv, h0⟩ | ⟨g, cap, cur, hv, hB, hg, hc, _⟩
  · exact .inl ⟨List.length_eq_zero_iff.1 h0, hv⟩
  · exact .inr ⟨g, cap, hv, hB, heap_lt hg, hc⟩
theorem ownA_same {B : Nat} {w w' : World} {v : Value} {zs : List Arc} (h : OwnArc B w v zs) (hb : ∀ g, v.ownBlock = some g → w'.heap[g]? = w.heap[g]?) : OwnArc B w' v zs := by
  obtain ⟨h1, h2⟩ := h
  refine ⟨h1, ?_⟩
  rcases h2 with h2 | ⟨g, cap, cur, hv, hB, hg, h3⟩
  · exact .inl h2
  · exact .inr ⟨g, cap, cur, hv, hB, (hb g (by rw [hv]; rfl)).trans hg, h3⟩
theorem ownA_cells {B : Nat} {w : World} {v : Value} {zs : List Arc} (h : OwnArc B w v zs) {g : Nat} (hg : v.ownBlock = some g) : B ≤ g ∧ g < w.heap.size ∧ ∃ cur, w.heap[g]? = some (Obj.cells cur 29 (0, 0)) := by
  rcases h.2 with ⟨hv, _⟩ | ⟨g', cap, cur, hv, hB, hg', h3⟩
  · rw [hv] at hg; cases hg
  · rw [hv] at hg
    injection hg with hg
    subst hg
    exact ⟨hB, heap_lt hg', _, hg'⟩
theorem ownA_snoc {B : Nat} {w : World} {v : Value} {xs : List Arc} {x : Arc} {k : Nat} (h : OwnArc B w v (xs ++ [x])) (hk : xs.length = k) : ∃ p c, v = .slice p (k + 1) c := by
  rcases ownA_form h with ⟨hz, _⟩ | ⟨g, cap, hv, _⟩
  · simp at hz
  · exact ⟨_, _, by rw [hv, List.length_append, hk]; rfl⟩
/-- append, as one step of a region within a round. -/
theorem stepIn_append_arcs {F : Fence} {n : Nat} {ops : Array Oper} {o : Oper} {a : Act} {w : World} {K : Act → World → Prop} {Q : Exit → Act → World → Prop} {E : Prop} (hgd : o.guard = none) (s x : Operand)
    (ho : o.op = .call { callee := .builtin .append, args := #[s, x], argTypes := #[27, 27] }) {B base : Nat} {v u : Value} {zs ys : List Arc}
    (hB : B ≤ w.heap.size) (hown : OwnArc B w v zs) (hs : a.eval s = v) (hys : Arcs base w u ys) (hx : a.eval x = u) (hl : zs.length + ys.length ≤ 1000000)
    (hK : ∀ v' w', OwnArc B w' v' (zs ++ ys) → w.grownBy w' v.ownBlock → (v'.ownBlock = v.ownBlock ∨ v'.ownBlock = some w.heap.size) → K (a.put o.dst v') w') :
    if Region.wanted o (yielded ops a.tmps) = true then Oper.wpIn F n Try.prog o a w K Q else E := by
  rw [if_pos (by simp [Region.wanted, hgd])]
  obtain ⟨v', w', hr, h2, h3, h5⟩ := run_append_arcs o.type hB hown hys hl
  unfold Oper.wpIn
  refine ⟨?_, ?_⟩
  · simp [Oper.about, ho, resolve, Target.leads, Sem.run_pure]
  · rw [Oper.semAt_plain F _ _ (by rw [ho]; intro c hc; cases hc)]
    simp [execOp, ho, resolve, invoke, builtin, hs, hx, hr, Result.andThen]
    exact hK _ _ h2 h3 h5
/-- What the loop holds: the slice in its box, the iterator's boxes, what lay ahead. -/
def GI (w0 : World) (E b c0 c1 c2 f t : Nat) (zs : List Arc) (ss : List Nat) (W : World) : Prop :=
  Below w0.heap.size w0 W ∧ (∃ v, W.heap[E]? = some (.cells #[v] 27) ∧ OwnArc w0.heap.size W v (zs ++ ss.map arcX)) ∧
  W.heap[c0]? = some (.cells #[.pointer (some ⟨b, 0, none⟩)] 69) ∧ W.heap[c1]? = some (.cells #[.int .u64 (f : Int)] 58) ∧ W.heap[c2]? = some (.cells #[.int .u64 (t : Int)] 58)
theorem GI.below {w0 W W' : World} {E b c0 c1 c2 f t : Nat} {zs : List Arc} {ss : List Nat} (h : GI w0 E b c0 c1 c2 f t zs ss W) (hb : Below W.heap.size W W') : GI w0 E b c0 c1 c2 f t zs ss W' := by
  obtain ⟨h1, ⟨v, h2, h3⟩, h4, h5, h6⟩ := h
  exact ⟨h1.trans (hb.mono h1.size), ⟨v, (hb.block _ (heap_lt h2)).trans h2, h3.below hb⟩, (hb.block _ (heap_lt h4)).trans h4, (hb.block _ (heap_lt h5)).trans h5, (hb.block _ (heap_lt h6)).trans h6⟩
theorem GI.put {w0 W : World} {E b c0 c1 c2 f t l : Nat} {zs : List Arc} {ss : List Nat} {o : Obj} (o' : Obj) (h : GI w0 E b c0 c1 c2 f t zs ss W) (hl : W.heap[l]? = some o) (hc : o.isCells = false) (hw : w0.heap.size ≤ l) : GI w0 E b c0 c1 c2 f t zs ss (W.putObj l o') := by
  obtain ⟨h1, ⟨v, h2, h3⟩, h4, h5, h6⟩ := h
  have key : ∀ (g : Nat) (cs : Array Value) (T : TypeId), W.heap[g]? = some (Obj.cells cs T (0, 0)) → (W.putObj l o').heap[g]? = some (Obj.cells cs T (0, 0)) := fun g cs T hg => by
    refine (World.putObj_heap_other (fun e => ?_)).trans hg
    rw [e, hl] at hg
    injection hg with hg
    rw [hg] at hc
    cases hc
  refine ⟨h1.grown (row := some l) ⟨rfl, rfl, rfl, by simp, fun k _ hk => World.putObj_heap_other (fun e => hk (by rw [e]))⟩ h1.size (fun k e => by cases e; exact hw), ⟨v, key _ _ _ h2, ownA_same h3 fun g hg => ?_⟩, key _ _ _ h4, key _ _ _ h5, key _ _ _ h6⟩
  obtain ⟨_, _, cur, hcur⟩ := ownA_cells h3 hg
  exact (key _ _ _ hcur).trans hcur.symm
theorem GI.bt {w0 W : World} {E b c0 c1 c2 f t : Nat} {zs : List Arc} {ss : List Nat} {V : Value} {m : Nat} {N P : Value} (h : GI w0 E b c0 c1 c2 f t zs ss W) (hb : w0.heap[b]? = some (grB V m N P)) : BtK w0 c0 c1 c2 b f t V W := by
  obtain ⟨h1, _, h4, h5, h6⟩ := h
  have k := (h1.block b (heap_lt hb)).trans hb
  exact ⟨⟨by simp [World.cell?, h4], by simp [World.cell?, h5], by simp [World.cell?, h6]⟩, heap_lt k, (gr_cells k).1, fun g cs T hg _ => h1.block g (heap_lt hg)⟩
theorem set_boxA (W : World) (b : Nat) (v v' : Value) (T : TypeId) (h : W.heap[b]? = some (.cells #[v] T)) : (W.setCell ⟨b, 0, none⟩ v').heap[b]? = some (.cells #[v'] T) ∧ (∀ g, g ≠ b → (W.setCell ⟨b, 0, none⟩ v').heap[g]? = W.heap[g]?) ∧ (W.setCell ⟨b, 0, none⟩ v').heap.size = W.heap.size := by
  refine ⟨by simp [World.setCell, Array.getElem?_modify, h], fun g hg => by simp [World.setCell, Array.getElem?_modify, Ne.symm hg], by simp [World.setCell]⟩
theorem GI.round {w0 W w2 w5 : World} {E b c0 c1 c2 f t x : Nat} {zs : List Arc} {ss : List Nat} {v v5 : Value} {ob : Obj} (h : GI w0 E b c0 c1 c2 f t zs ss W) (hE : w0.heap.size ≤ E) (hv : W.heap[E]? = some (.cells #[v] 27)) (hb2 : Below W.heap.size W w2) (h5 : OwnArc w0.heap.size w5 v5 ((zs ++ ss.map arcX) ++ [arcX x])) (hg : (w2.alloc ob).grownBy w5 v.ownBlock) (ho : OwnArc w0.heap.size W v (zs ++ ss.map arcX)) :
    RKc W (w5.setCell ⟨E, 0, none⟩ v5) ∧ GI w0 E b c0 c1 c2 f t zs (ss ++ [x]) (w5.setCell ⟨E, 0, none⟩ v5) := by
  obtain ⟨h1, _, h4, hc1, hc2⟩ := h
  have hB := hb2.alloc hb2.size ob
  have hsz : W.heap.size ≤ w2.heap.size := hb2.size
  have old : ∀ g, g < W.heap.size → v.ownBlock ≠ some g → w5.heap[g]? = W.heap[g]? := fun g hlt hne => (hg.block g (by have := hB.size; omega) (fun e => hne e.symm)).trans (hB.block g hlt)
  have kind : ∀ (g : Nat) (o : Obj), W.heap[g]? = some o → (∀ cur, o ≠ Obj.cells cur 29 (0, 0)) → v.ownBlock ≠ some g := fun g o hgo hne e => by
    obtain ⟨_, _, cur, hcur⟩ := ownA_cells ho e
    rw [hgo] at hcur
    injection hcur with hcur
    exact hne cur hcur
  have hE5 : w5.heap[E]? = some (.cells #[v] 27) := (old E (heap_lt hv) (kind E _ hv fun cur e => by injection e with _ e; exact absurd e (by decide))).trans hv
  obtain ⟨s1, s2, s3⟩ := set_boxA w5 E v v5 _ hE5
  have hgs := hg.size
  have hBs := hB.size
  have q2 : Below w0.heap.size W w5 := (hB.mono h1.size).grown hg (by have := h1.size; omega) (fun g e => (ownA_cells ho e).1)
  have hbw : Below w0.heap.size W (w5.setCell ⟨E, 0, none⟩ v5) := q2.setCell (p := ⟨E, 0, none⟩) hE _
  have keep : ∀ (g : Nat) (cs : Array Value) (T : TypeId), W.heap[g]? = some (Obj.cells cs T (0, 0)) → T ≠ 29 → T ≠ 27 → (w5.setCell ⟨E, 0, none⟩ v5).heap[g]? = some (Obj.cells cs T (0, 0)) := fun g cs T hgo hT hT2 => by
    have n1 : g ≠ E := fun e => by
      rw [e, hv] at hgo; injection hgo with hgo; injection hgo with _ hgo; exact hT2 hgo.symm
    exact (s2 g n1).trans ((old g (heap_lt hgo) (kind g _ hgo fun cur e => by injection e with _ e; exact hT e)).trans hgo)
  refine ⟨⟨by omega, fun g o2 hgo hc => ?_⟩, h1.trans hbw, ⟨v5, s1, ?_⟩, keep _ _ _ h4 (by decide) (by decide), keep _ _ _ hc1 (by decide) (by decide), keep _ _ _ hc2 (by decide) (by decide)⟩
  · have n1 : g ≠ E := fun e => by
      rw [e, hv] at hgo; injection hgo with hgo; rw [← hgo] at hc; cases hc
    have n2 : v.ownBlock ≠ some g := kind g _ hgo fun cur e => by rw [e] at hc; cases hc
    exact (s2 g n1).trans ((old g (heap_lt hgo) n2).trans hgo)
  · rw [List.map_append, ← List.append_assoc]
    exact ownA_same h5 fun g hg' => s2 g (fun e => by
      obtain ⟨_, _, cur, hcur⟩ := ownA_cells h5 hg'
      rw [e, hE5] at hcur
      injection hcur with hcur; injection hcur with _ hcur; exact absurd hcur (by decide))
theorem joinA {P : Prop} (J G : World → Prop) (h1 : (∀ u, J u → G u) → P) (h2 : ∀ u, J u → G u) : P := h1 h2
end Go.Proofs.Ytpgfkggfgkafjaa.Gr
