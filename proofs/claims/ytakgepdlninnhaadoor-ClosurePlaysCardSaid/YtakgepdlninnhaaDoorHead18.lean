/-
  Contracts of small functions, several texts laid into one. Not a statement of the seat.
-/
import Derived.Test.YtakgepdlninnhaaDoorCs2
import Derived.Carry
import Derived.Test.YtakgepdlninnhaaDoorLstSame
namespace Go.Proofs.YtakgepdlninnhaaDoor.Cs
open Go.ChangeShapes Go.WideShapes Go.ChangeAt Go.RowKit Base F Bits
/-- Where a closure's parts lie: of kind 0 where arcs go, 1 where they come from, 2 who is reached. -/
structure CB where
  b : Nat
  mb : Nat
  vp : Nat → Option Addr
  vc : Nat → Nat
  rb : Nat → Nat → Nat
  rg : Nat → Nat → Nat
/-- The row that tells whose rows were changed, if there is one. -/
abbrev La := Option (Nat × Nat × Nat)
def laP (la : La) : Option Addr := la.map fun x => ⟨x.1, 0, none⟩
structure CS (B : Nat) (k : CB) (n : Nat) (W : World) (f : Int × Int → Int) (V : Nat → Nat → Nat) (la : La) (m : Nat) : Prop where
  head : W.heap[k.b]? = some (cloB (some k.mb) (k.vp 0) n (k.vc 0) (k.vp 1) n (k.vc 1) (k.vp 2) n (k.vc 2) (laP la))
  map : CM W k.mb m f
  sl : ∀ a, a < 3 → ∀ i, i < n → ∃ g cur, k.vp a = some ⟨g, 0, none⟩ ∧ W.heap[g]? = some (.cells cur 54) ∧ cur[i]? = some (.pointer (some ⟨k.rb a i, 0, none⟩))
  row : ∀ a, a < 3 → ∀ i, i < n → RowAt W (k.rb a i) (k.rg a i) n (V a i)
  inj : ∀ a, a < 3 → ∀ i, i < n → ∀ a', a' < 3 → ∀ i', i' < n → k.rg a i = k.rg a' i' → a = a' ∧ i = i'
  lst : ∀ x, la = some x → RowAt W x.1 x.2.1 n x.2.2 ∧ B ≤ x.2.1 ∧ ∀ a, a < 3 → ∀ i, i < n → k.rg a i ≠ x.2.1
  ge : B ≤ k.b ∧ B ≤ k.mb ∧ ∀ a, a < 3 → ∀ i, i < n → B ≤ k.rg a i
  hn : n ≤ 4096
  size : B ≤ W.heap.size
  mp : ∃ es clock, W.heap[k.mb]? = some (.map es clock)
def upV (V : Nat → Nat → Nat) (a i X : Nat) : Nat → Nat → Nat := fun a' i' => if a' = a ∧ i' = i then X else V a' i'
theorem upV_at (V : Nat → Nat → Nat) (a i X : Nat) : upV V a i X a i = X := by simp [upV]
theorem upV_ne (V : Nat → Nat → Nat) {a i a' i' : Nat} (X : Nat) (h : ¬ (a' = a ∧ i' = i)) : upV V a i X a' i' = V a' i' := by simp [upV, h]
section
variable {B n m : Nat} {k : CB} {W W' : World} {f : Int × Int → Int} {V : Nat → Nat → Nat} {la : La}
theorem map_of (h : CM W k.mb m f) : ∃ es clock, W.heap[k.mb]? = some (.map es clock) := by
  obtain ⟨D, ⟨es, clock, hb, _⟩, _⟩ := h
  exact ⟨es, clock, hb⟩
theorem CS.blocks (h : CS B k n W f V la m) (hb : ∀ g, g < W.heap.size → W'.heap[g]? = W.heap[g]?) (hs : W.heap.size ≤ W'.heap.size) : CS B k n W' f V la m := by
  have keep : ∀ {g : Nat} {o : Obj}, W.heap[g]? = some o → W'.heap[g]? = some o := fun {g o} h1 => (hb g (heap_lt h1)).trans h1
  obtain ⟨es, clock, hm⟩ := h.mp
  refine ⟨keep h.head, h.map.heap (hb _ (heap_lt hm)), fun a ha i hi => ?_, fun a ha i hi => ?_, h.inj, fun x hx => ?_, h.ge, h.hn, Nat.le_trans h.size hs, ⟨es, clock, keep hm⟩⟩
  · obtain ⟨g, cur, h1, h2, h3⟩ := h.sl a ha i hi
    exact ⟨g, cur, h1, keep h2, h3⟩
  · have := h.row a ha i hi
    exact this.keep (hb _ (heap_lt this.1)) (hb _ (heap_lt this.2.1))
  · obtain ⟨h1, h2, h3⟩ := h.lst x hx
    exact ⟨h1.keep (hb _ (heap_lt h1.1)) (hb _ (heap_lt h1.2.1)), h2, h3⟩
theorem CS.below (h : CS B k n W f V la m) (hb : Below W.heap.size W W') : CS B k n W' f V la m := h.blocks (fun g hg => hb.block g hg) hb.size
theorem CS.drewN (h : CS B k n W f V la m) (q : Nat) : CS B k n (W.drewN q) f V la m := h.blocks (fun _ _ => rfl) (Nat.le_refl _)
/-- A block of words is changed: what is not of that block stays. -/
theorem CS.but (h : CS B k n W f V la m) {x : Nat} {cur : Array Value} (hx : W.heap[x]? = some (.cells cur 86)) (hg : W.grownBy W' (some x)) :
    W'.heap[k.b]? = W.heap[k.b]? ∧ W'.heap[k.mb]? = W.heap[k.mb]? ∧ (∀ a, a < 3 → ∀ i, i < n → ∃ g cur, k.vp a = some ⟨g, 0, none⟩ ∧ W'.heap[g]? = some (.cells cur 54) ∧ cur[i]? = some (.pointer (some ⟨k.rb a i, 0, none⟩))) ∧ (∀ {b g X : Nat}, RowAt W b g n X → g ≠ x → RowAt W' b g n X) := by
  have ne : ∀ {g : Nat} {cs : Array Value} {T : TypeId}, W.heap[g]? = some (Obj.cells cs T (0, 0)) → T ≠ 86 → g ≠ x := by
    intro g cs T h1 hT e
    rw [e, hx] at h1
    simp only [Option.some.injEq, Obj.cells.injEq] at h1
    exact hT h1.2.1.symm
  have nm : k.mb ≠ x := fun e => by
    obtain ⟨es, clock, hm⟩ := h.mp
    rw [e, hx] at hm
    cases hm
  have nb : k.b ≠ x := ne (cs := _) (T := 56) h.head (by decide)
  have bl : ∀ g, g < W.heap.size → g ≠ x → W'.heap[g]? = W.heap[g]? := fun g h1 h2 => hg.block g h1 (fun e => h2 (Option.some.inj e))
  obtain ⟨es, clock, hm⟩ := h.mp
  refine ⟨bl _ (heap_lt h.head) nb, bl _ (heap_lt hm) nm, fun a ha i hi => ?_, fun {b g X} hr hne => ?_⟩
  · obtain ⟨g, cur', h1, h2, h3⟩ := h.sl a ha i hi
    exact ⟨g, cur', h1, (bl g (heap_lt h2) (ne h2 (by decide))).trans h2, h3⟩
  · exact hr.keep (bl b (heap_lt hr.1) (ne hr.1 (by decide))) (bl g (heap_lt hr.2.1) hne)
/-- Some other row is changed. -/
theorem CS.other (h : CS B k n W f V la m) {x : Nat} {cur : Array Value} (hx : W.heap[x]? = some (.cells cur 86)) (hne : ∀ a, a < 3 → ∀ i, i < n → k.rg a i ≠ x) (hl : ∀ y, la = some y → y.2.1 ≠ x) (hg : W.grownBy W' (some x)) : CS B k n W' f V la m := by
  obtain ⟨h1, h2, h3, h4⟩ := h.but hx hg
  obtain ⟨es, clock, hm⟩ := h.mp
  refine ⟨h1.trans h.head, h.map.heap h2, h3, fun a ha i hi => h4 (h.row a ha i hi) (hne a ha i hi), h.inj, fun y hy => ?_, h.ge, h.hn, Nat.le_trans h.size hg.size, ⟨es, clock, h2.trans hm⟩⟩
  obtain ⟨l1, l2, l3⟩ := h.lst y hy
  exact ⟨h4 l1 (hl y hy), l2, l3⟩
/-- One of the rows is changed. -/
theorem CS.turn (h : CS B k n W f V la m) {a i X : Nat} (ha : a < 3) (hi : i < n) (hr : RowAt W' (k.rb a i) (k.rg a i) n X) (hg : W.grownBy W' (some (k.rg a i))) : CS B k n W' f (upV V a i X) la m := by
  obtain ⟨h1, h2, h3, h4⟩ := h.but (h.row a ha i hi).2.1 hg
  obtain ⟨es, clock, hm⟩ := h.mp
  refine ⟨h1.trans h.head, h.map.heap h2, h3, fun a' ha' i' hi' => ?_, h.inj, fun y hy => ?_, h.ge, h.hn, Nat.le_trans h.size hg.size, ⟨es, clock, h2.trans hm⟩⟩
  · by_cases e : a' = a ∧ i' = i
    · obtain ⟨rfl, rfl⟩ := e
      rw [upV_at]
      exact hr
    · rw [upV_ne _ _ e]
      exact h4 (h.row a' ha' i' hi') (fun e2 => e (h.inj a' ha' i' hi' a ha i hi e2))
  · obtain ⟨l1, l2, l3⟩ := h.lst y hy
    exact ⟨h4 l1 (fun e => l3 a ha i hi e.symm), l2, l3⟩
/-- The row of those that were changed is changed. -/
theorem CS.tell {lb lg X0 : Nat} (h : CS B k n W f V (some (lb, lg, X0)) m) {X : Nat} (hr : RowAt W' lb lg n X) (hg : W.grownBy W' (some lg)) : CS B k n W' f V (some (lb, lg, X)) m := by
  obtain ⟨l1, l2, l3⟩ := h.lst _ rfl
  obtain ⟨h1, h2, h3, h4⟩ := h.but l1.2.1 hg
  obtain ⟨es, clock, hm⟩ := h.mp
  refine ⟨h1.trans h.head, h.map.heap h2, h3, fun a ha i hi => h4 (h.row a ha i hi) (l3 a ha i hi), h.inj, fun y hy => ?_, h.ge, h.hn, Nat.le_trans h.size hg.size, ⟨es, clock, h2.trans hm⟩⟩
  injection hy with hy
  subst hy
  exact ⟨hr, l2, l3⟩
/-- The counts are changed. -/
theorem CS.count (h : CS B k n W f V la m) {f' : Int × Int → Int} {m' : Nat} (hm' : CM W' k.mb m' f') (hg : W.grownBy W' (some k.mb)) : CS B k n W' f' V la m' := by
  obtain ⟨es, clock, hm⟩ := h.mp
  have ne : ∀ {g : Nat} {cs : Array Value} {T : TypeId}, W.heap[g]? = some (Obj.cells cs T (0, 0)) → g ≠ k.mb := by
    intro g cs T h1 e
    rw [e, hm] at h1
    cases h1
  have bl : ∀ {g : Nat} {cs : Array Value} {T : TypeId}, W.heap[g]? = some (Obj.cells cs T (0, 0)) → W'.heap[g]? = W.heap[g]? := fun {g cs T} h1 => hg.block g (heap_lt h1) (fun e => ne h1 (Option.some.inj e))
  refine ⟨(bl (cs := _) (T := 56) h.head).trans h.head, hm', fun a ha i hi => ?_, fun a ha i hi => ?_, h.inj, fun x hx => ?_, h.ge, h.hn, Nat.le_trans h.size hg.size, map_of hm'⟩
  · obtain ⟨g, cur, h1, h2, h3⟩ := h.sl a ha i hi
    exact ⟨g, cur, h1, (bl h2).trans h2, h3⟩
  · have := h.row a ha i hi
    exact this.keep (bl this.1) (bl this.2.1)
  · obtain ⟨h1, h2, h3⟩ := h.lst x hx
    exact ⟨h1.keep (bl h1.1) (bl h1.2.1), h2, h3⟩
/-- A new row stands for those that are changed. -/
theorem CS.anew (h : CS B k n W f V la m) {lb lg X : Nat} (hr : RowAt W lb lg n X) (hB : B ≤ lg) (hne : ∀ a, a < 3 → ∀ i, i < n → k.rg a i ≠ lg) : CS B k n (W.setCell ⟨k.b, 4, none⟩ (.pointer (some ⟨lb, 0, none⟩))) f V (some (lb, lg, X)) m := by
  obtain ⟨es, clock, hm⟩ := h.mp
  have hh := h.head
  have ne : ∀ {g : Nat} {cs : Array Value} {T : TypeId}, W.heap[g]? = some (Obj.cells cs T (0, 0)) → T ≠ 56 → g ≠ k.b := by
    intro g cs T h1 hT e
    unfold cloB at hh
    rw [e, hh] at h1
    simp only [Option.some.injEq, Obj.cells.injEq] at h1
    exact hT h1.2.1.symm
  have nm : k.mb ≠ k.b := fun e => by
    rw [e, hh] at hm
    cases hm
  have bl : ∀ {g : Nat}, g ≠ k.b → (W.setCell ⟨k.b, 4, none⟩ (.pointer (some ⟨lb, 0, none⟩))).heap[g]? = W.heap[g]? := fun {g} h2 => Below.heap_setCell _ _ _ _ h2
  have kr : ∀ {b g X : Nat}, RowAt W b g n X → RowAt (W.setCell ⟨k.b, 4, none⟩ (.pointer (some ⟨lb, 0, none⟩))) b g n X := fun {b g X} hr' => hr'.keep (bl (ne hr'.1 (by decide))) (bl (ne hr'.2.1 (by decide)))
  refine ⟨?_, h.map.heap (bl nm), fun a ha i hi => ?_, fun a ha i hi => kr (h.row a ha i hi), h.inj, fun x hx => ?_, h.ge, h.hn, by have := h.size; simp [World.setCell]; omega, ⟨es, clock, (bl nm).trans hm⟩⟩
  · simp only [World.setCell, Array.getElem?_modify, if_true, hh, Option.map_some]
    rfl
  · obtain ⟨g, cur, h1, h2, h3⟩ := h.sl a ha i hi
    exact ⟨g, cur, h1, (bl (ne h2 (by decide))).trans h2, h3⟩
  · injection hx with hx
    subst hx
    exact ⟨kr hr, hB, hne⟩
/-- What is read on the way to a row. -/
theorem CS.way (h : CS B k n W f V la m) {a i : Nat} (ha : a < 3) (hi : i < n) : ∃ g, k.vp a = some ⟨g, 0, none⟩ ∧ g < W.heap.size ∧ W.cell? ⟨g, i, none⟩ = some (.pointer (some ⟨k.rb a i, 0, none⟩)) := by
  obtain ⟨g, cur, h1, h2, h3⟩ := h.sl a ha i hi
  refine ⟨g, h1, heap_lt h2, ?_⟩
  simp only [World.cell?, h2]
  exact h3
theorem CS.v (h : CS B k n W f V la m) : ClV W (.pointer (some ⟨k.b, 0, none⟩)) n := .inr ⟨_, _, _, _, _, _, _, _, _, _, _, rfl, h.head⟩
end
end Go.Proofs.YtakgepdlninnhaaDoor.Cs
namespace Go.Proofs.YtakgepdlninnhaaDoor.Cs
open Go.ChangeShapes Go.WideShapes Go.ChangeAt Go.RowKit Base F Bits
def roomC (n : Int) : Nat := (min (max n 0) 4096).toNat
theorem roomC_le (n : Int) : roomC n ≤ 4096 := by unfold roomC; omega
/-- What New leaves. -/
def NewC (w : World) (r : Nat) (e : Ending) (w' : World) : Prop := ∃ k, e = .returned (.pointer (some ⟨k.b, 0, none⟩)) ∧ CS w.heap.size k r w' (fun _ => 0) (fun _ _ => 0) none 0 ∧ Below w.heap.size w w'
theorem RP.read {B n : Nat} {w0 w w' : World} {v : Value} {rb rg : Nat → Nat} (h : RP B w0 w v n n rb rg) (hb : Below w.heap.size w w') : ∃ p c, v = .slice p n c ∧ (∀ i, i < n → ∃ g cur, p = some ⟨g, 0, none⟩ ∧ w'.heap[g]? = some (.cells cur 54) ∧ cur[i]? = some (.pointer (some ⟨rb i, 0, none⟩))) ∧ ∀ i, i < n → RowAt w' (rb i) (rg i) n 0 ∧ B ≤ rg i ∧ rg i < w.heap.size := by
  have h1 : ∀ i, i < n → RowAt w' (rb i) (rg i) n 0 ∧ B ≤ rg i ∧ rg i < w.heap.size := fun i hi => ⟨(h.row i hi).below hb, (h.ge i hi).2, heap_lt (h.row i hi).2.1⟩
  rcases h.own.2 with ⟨hv, h0⟩ | ⟨g, cap, cur, hv, _, hg, _, _, _, htk⟩
  · exact ⟨none, 0, by rw [hv, h0], fun i hi => by omega, h1⟩
  · refine ⟨_, cap, hv, fun i hi => ⟨g, cur, rfl, (hb.block g (heap_lt hg)).trans hg, ?_⟩, h1⟩
    have : (cur.toList.take (n * 1))[i]? = (ptrs n rb)[i]? := by rw [htk]
    rw [List.getElem?_take, if_pos (by omega), Array.getElem?_toList] at this
    rw [this]
    unfold ptrs
    simp [hi]
theorem new_key {w w1 w2 w3 w4 : World} {n : Nat} {v0 v1 v2 : Value} {rb0 rg0 rb1 rg1 rb2 rg2 : Nat → Nat} (hn : n ≤ 4096) (h1 : w1 = w.alloc (.map #[] 0)) (r0 : RP w1.heap.size w1 w2 v0 n n rb0 rg0) (r1 : RP w2.heap.size w2 w3 v1 n n rb1 rg1) (r2 : RP w3.heap.size w3 w4 v2 n n rb2 rg2) :
    ∃ p0 c0 p1 c1 p2 c2, v0 = .slice p0 n c0 ∧ v1 = .slice p1 n c1 ∧ v2 = .slice p2 n c2 ∧ NewC w n (.returned (.pointer (some ⟨w4.heap.size, 0, none⟩))) (w4.alloc (cloB (some w.heap.size) p0 n c0 p1 n c1 p2 n c2 none)) := by
  have hb1 : Below w.heap.size w w1 := by rw [h1]; exact (Below.refl _ _).alloc (Nat.le_refl _) _
  have b2 := r0.below
  have b3 := r1.below
  have b4 := r2.below
  have hb3 : Below w2.heap.size w2 w4 := b3.trans (b4.mono b3.size)
  have X : ∀ o, Below w4.heap.size w4 (w4.alloc o) := fun o => (Below.refl _ _).alloc (Nat.le_refl _) _
  obtain ⟨p0, c0, e0, s0, q0⟩ := r0.read (hb3.trans ((X (.map #[] 0)).mono hb3.size))
  obtain ⟨p1, c1, e1, s1, q1⟩ := r1.read (b4.trans ((X (.map #[] 0)).mono b4.size))
  obtain ⟨p2, c2, e2, s2, q2⟩ := r2.read (X (.map #[] 0))
  have sw : ∀ {o : Obj} (g : Nat), g < w4.heap.size → (w4.alloc o).heap[g]? = w4.heap[g]? := fun {o} g hg => (X o).block g hg
  refine ⟨p0, c0, p1, c1, p2, c2, e0, e1, e2, ?_⟩
  have hsz1 : w1.heap.size = w.heap.size + 1 := by rw [h1]; simp
  have z2 := b2.size
  have z3 := b3.size
  have z4 := b4.size
  obtain ⟨p0', c0', e0', s0, q0⟩ := r0.read (hb3.trans ((X (cloB (some w.heap.size) p0 n c0 p1 n c1 p2 n c2 none)).mono hb3.size))
  obtain ⟨p1', c1', e1', s1, q1⟩ := r1.read (b4.trans ((X (cloB (some w.heap.size) p0 n c0 p1 n c1 p2 n c2 none)).mono b4.size))
  obtain ⟨p2', c2', e2', s2, q2⟩ := r2.read (X (cloB (some w.heap.size) p0 n c0 p1 n c1 p2 n c2 none))
  rw [e0] at e0'
  rw [e1] at e1'
  rw [e2] at e2'
  injection e0' with e0' _ _
  injection e1' with e1' _ _
  injection e2' with e2' _ _
  subst e0' e1' e2'
  have hm : (w4.alloc (cloB (some w.heap.size) p0 n c0 p1 n c1 p2 n c2 none)).heap[w.heap.size]? = some (.map #[] 0) := by
    have hm1 : w1.heap[w.heap.size]? = some (.map #[] 0) := by rw [h1]; exact heap_alloc_at _ _ _ rfl
    rw [sw _ (by omega), b4.block _ (by omega), b3.block _ (by omega), b2.block _ (by omega)]
    exact hm1
  refine ⟨⟨w4.heap.size, w.heap.size, fun a => if a = 0 then p0 else if a = 1 then p1 else p2, fun a => if a = 0 then c0 else if a = 1 then c1 else c2, fun a => if a = 0 then rb0 else if a = 1 then rb1 else rb2, fun a => if a = 0 then rg0 else if a = 1 then rg1 else rg2⟩, rfl, ⟨heap_alloc_at _ _ _ rfl, Mp.MW.made hm, ?_, ?_, ?_, fun x hx => (by cases hx), ⟨by show w.heap.size ≤ w4.heap.size; omega, Nat.le_refl _, ?_⟩, hn, ?_, ⟨_, _, hm⟩⟩, ?_⟩
  · intro a ha i hi
    match a, ha with
    | 0, _ => exact s0 i hi
    | 1, _ => exact s1 i hi
    | 2, _ => exact s2 i hi
  · intro a ha i hi
    match a, ha with
    | 0, _ => exact (q0 i hi).1
    | 1, _ => exact (q1 i hi).1
    | 2, _ => exact (q2 i hi).1
  · intro a ha i hi a' ha' i' hi' e
    have u0 := q0 i hi
    have u1 := q1 i hi
    have u2 := q2 i hi
    have t0 := q0 i' hi'
    have t1 := q1 i' hi'
    have t2 := q2 i' hi'
    match a, ha, a', ha', e with
    | 0, _, 0, _, e => exact ⟨rfl, r0.inj i hi i' hi' e⟩
    | 1, _, 1, _, e => exact ⟨rfl, r1.inj i hi i' hi' e⟩
    | 2, _, 2, _, e => exact ⟨rfl, r2.inj i hi i' hi' e⟩
    | 0, _, 1, _, e => have e : rg0 i = rg1 i' := e; omega
    | 0, _, 2, _, e => have e : rg0 i = rg2 i' := e; omega
    | 1, _, 0, _, e => have e : rg1 i = rg0 i' := e; omega
    | 1, _, 2, _, e => have e : rg1 i = rg2 i' := e; omega
    | 2, _, 0, _, e => have e : rg2 i = rg0 i' := e; omega
    | 2, _, 1, _, e => have e : rg2 i = rg1 i' := e; omega
  · intro a ha i hi
    have u0 := q0 i hi
    have u1 := q1 i hi
    have u2 := q2 i hi
    match a, ha with
    | 0, _ => show w.heap.size ≤ rg0 i; omega
    | 1, _ => show w.heap.size ≤ rg1 i; omega
    | 2, _ => show w.heap.size ≤ rg2 i; omega
  · simp; omega
  · have hb14 : Below w.heap.size w w4 := hb1.trans ((b2.trans (hb3.mono z2)).mono (by omega))
    exact hb14.trans ((X _).mono hb14.size)
set_option maxRecDepth 100000 in
set_option maxHeartbeats 2000000 in
theorem new_any (n : Int) (w : World) : Calls Tryd.prog 5 #[.int .i64 n] w (NewC w (roomC n)) := by
  have HER : Hid (∀ W, Calls Tryd.prog 22 #[.int .i64 (min (max n 0) 4096)] W (RowsNew (roomC n) W)) := Lib.hid fun W => by
    have := emptyRows_any (roomC n) (roomC_le n) W
    rw [show ((roomC n : Nat) : Int) = min (max n 0) 4096 by unfold roomC; omega] at this
    exact this
  have HR := Lib.hid (roomC_le n)
  have HKEY : Hid (∀ (w1 w2 w3 w4 : World) (v0 v1 v2 : Value) (rb0 rg0 rb1 rg1 rb2 rg2 : Nat → Nat), w1 = w.alloc (.map #[] 0) → RP w1.heap.size w1 w2 v0 (roomC n) (roomC n) rb0 rg0 → RP w2.heap.size w2 w3 v1 (roomC n) (roomC n) rb1 rg1 → RP w3.heap.size w3 w4 v2 (roomC n) (roomC n) rb2 rg2 → ∃ p0 c0 p1 c1 p2 c2, v0 = .slice p0 (roomC n) c0 ∧ v1 = .slice p1 (roomC n) c1 ∧ v2 = .slice p2 (roomC n) c2 ∧ NewC w (roomC n) (.returned (.pointer (some ⟨w4.heap.size, 0, none⟩))) (w4.alloc (cloB (some w.heap.size) p0 (roomC n) c0 p1 (roomC n) c1 p2 (roomC n) c2 none))) := Lib.hid fun w1 w2 w3 w4 v0 v1 v2 rb0 rg0 rb1 rg1 rb2 rg2 h1 a b c => new_key HR.out h1 a b c
  generalize roomC n = r at HER HR HKEY ⊢
  have hmm := @run_makeMap Tryd.prog
  go_enter Tryd.func5, Tryd.ntmps5
  go_wp2_with fail
  obtain ⟨w1, hw1⟩ : ∃ X, X = w.alloc (.map #[] 0) := ⟨_, rfl⟩
  have HW1 := Lib.hid hw1
  rw [← hw1]
  clear hw1 hmm
  refine (HER.out _).mono ?_
  rintro e w2 ⟨v0, rb0, rg0, rfl, r0⟩
  have R0 := Lib.hid r0
  clear r0
  go_wp2_with fail
  refine (HER.out _).mono ?_
  rintro e w3 ⟨v1, rb1, rg1, rfl, r1⟩
  have R1 := Lib.hid r1
  clear r1
  go_wp2_with fail
  refine (HER.out _).mono ?_
  rintro e w4 ⟨v2, rb2, rg2, rfl, r2⟩
  have R2 := Lib.hid r2
  clear r2
  obtain ⟨p0, c0, p1, c1, p2, c2, h0, h1, h2, hN⟩ := HKEY.out w1 w2 w3 w4 v0 v1 v2 rb0 rg0 rb1 rg1 rb2 rg2 HW1.out R0.out R1.out R2.out
  subst h0 h1 h2
  have HN := Lib.hid hN
  unfold cloB at HN
  clear hN HKEY HER R0 R1 R2 HW1
  go_wp2
  go_ret
  exact HN.out
end Go.Proofs.YtakgepdlninnhaaDoor.Cs
namespace Go.Proofs.YtakgepdlninnhaaDoor.Cs
open Go.ChangeShapes Go.WideShapes Go.ChangeAt Go.RowKit Base F Bits
theorem setV_bit {n V : Nat} {i : Nat} {on : Bool} (hi : i < n) (x : Nat) : (setV n V (i : Int) on).testBit x = if x = i then on else V.testBit x := by
  unfold setV
  rw [Int.toNat_natCast]
  by_cases hb : V.testBit i = on
  · rw [if_neg (fun h => h.2.2 hb)]
    by_cases e : x = i
    · rw [if_pos e, e, hb]
    · rw [if_neg e]
  · rw [if_pos ⟨by omega, by omega, hb⟩, Nat.testBit_xor, Nat.testBit_two_pow]
    by_cases e : x = i
    · subst e
      rw [if_pos rfl]
      cases h1 : V.testBit x <;> cases on <;> simp_all
    · rw [if_neg e, decide_eq_false (Ne.symm e), Bool.xor_false]
/-- A new row of n places, those that P holds of. -/
def RowB (n : Nat) (P : Nat → Bool) (w : World) (e : Ending) (w' : World) : Prop := ∃ b g X, e = .returned (.pointer (some ⟨b, 0, none⟩)) ∧ RowAt w' b g n X ∧ (∀ x, x < n → X.testBit x = P x) ∧ Below w.heap.size w w' ∧ w.heap.size ≤ b ∧ w.heap.size ≤ g
variable {B n m : Nat} {k : CB} {w W W' : World} {f : Int × Int → Int} {V : Nat → Nat → Nat} {la : La}
theorem CS.cells (h : CS B k n W f V la m) : W.cell? ⟨k.b, 0, none⟩ = some (.map (some k.mb)) ∧ W.cell? ⟨k.b, 1, none⟩ = some (.slice (k.vp 0) n (k.vc 0)) ∧ W.cell? ⟨k.b, 2, none⟩ = some (.slice (k.vp 1) n (k.vc 1)) ∧ W.cell? ⟨k.b, 3, none⟩ = some (.slice (k.vp 2) n (k.vc 2)) ∧ W.cell? ⟨k.b, 4, none⟩ = some (.pointer (laP la)) := by
  obtain ⟨h0, h1, h2, h3, h4, _⟩ := clo_cells h.head
  exact ⟨h0, h1, h2, h3, h4⟩
set_option maxRecDepth 100000 in
theorem behind_any (h : CS B k n w f V la m) {v : Nat} (hv : v < n) : Calls Tryd.prog 39 #[.pointer (some ⟨k.b, 0, none⟩), .int .i64 (v : Int)] w (RowB n (fun x => decide (x = v) || (V 2 v).testBit x) w) := by
  obtain ⟨_, _, _, c3, _⟩ := h.cells
  obtain ⟨g, hp, hlt, hcl⟩ := h.way (a := 2) (by omega) hv
  rw [hp] at c3
  have HCP := Lib.hid (copy_row (k.rb 2 v) (k.rg 2 v) n (V 2 v) w (h.row 2 (by omega) v hv))
  have hvi : (v : Int) < (n : Int) := by omega
  have hn4 : (n : Int) ≤ 4096 := by have := h.hn; omega
  clear h hp
  go_enter Tryd.func39, Tryd.ntmps39
  go_wp2_with fail
  refine HCP.out.mono ?_
  rintro e w2 ⟨b, gx, rfl, hr, hb, hb1, hb2⟩
  have HS := Lib.hid (Bits.set_any b gx n (V 2 v) (v : Int) true w2 hr)
  have HB := Lib.hid hb
  have HG := Lib.hid (And.intro hb1 hb2)
  clear hr hb hb1 hb2 HCP c3 hcl hlt
  go_wp2_with fail
  refine HS.out.mono ?_
  rintro e w3 ⟨rfl, hr3, hg3⟩
  have HR : Hid (RowB n (fun x => decide (x = v) || (V 2 v).testBit x) w (.returned (.pointer (some ⟨b, 0, none⟩))) w3) := Lib.hid ⟨b, gx, _, rfl, hr3, fun x hx => by
    rw [setV_bit hv]
    show _ = (decide (x = v) || (V 2 v).testBit x)
    by_cases e : x = v
    · rw [if_pos e, decide_eq_true e]; rfl
    · rw [if_neg e, decide_eq_false e]; rfl, Below.grown HB.out hg3 HB.out.size (fun z hz => by injection hz with hz; rw [← hz]; exact HG.out.2), HG.out.1, HG.out.2⟩
  clear hr3 hg3 HS HB HG
  go_wp2
  go_ret
  exact HR.out
set_option maxRecDepth 100000 in
set_option maxHeartbeats 2000000 in
theorem ahead_any (h : CS B k n w f V la m) {v : Nat} (hv : v < n) : Calls Tryd.prog 40 #[.pointer (some ⟨k.b, 0, none⟩), .int .i64 (v : Int)] w (RowB n (fun x => decide (x = v) || (V 2 x).testBit v) w) := by
  have HC := Lib.hid h
  have HN := Lib.hid (nodes_any h.v)
  have hvi : (v : Int) < (n : Int) := by omega
  have hn4 : (n : Int) ≤ 4096 := by have := h.hn; omega
  have HROW : Hid (∀ w1, Below w.heap.size w w1 → Calls Tryd.prog 47 #[.int .i64 (n : Int), .slice (some ⟨w1.heap.size, 0, none⟩) 1 1] (w1.alloc (.cells #[.int .i64 (v : Int)] 3)) (RowNew n (ofV n [(v : Int)]) (w1.alloc (.cells #[.int .i64 (v : Int)] 3)))) := Lib.hid fun w1 _ => by
    have := of_row (n : Int) (w1.alloc (.cells #[.int .i64 (v : Int)] 3)) (lit_ints [(v : Int)] w1 3 #[.int .i64 (v : Int)] rfl (by simp) 1 rfl)
    rw [show Bits.rowLen (n : Int) = n by unfold Bits.rowLen; omega] at this
    exact this
  clear h
  go_enter Tryd.func40, Tryd.ntmps40
  go_wp2_with fail
  refine HN.out.mono ?_
  rintro e w1 ⟨rfl, hb⟩
  have HB1 := Lib.hid hb
  clear hb HN
  go_wp2_with fail
  refine (HROW.out w1 HB1.out).mono ?_
  rintro e w2 ⟨b, gx, rfl, hr, hb, hb1, hb2⟩
  have hba : Below w1.heap.size w1 (w1.alloc (.cells #[.int .i64 (v : Int)] 3)) := (Below.refl _ _).alloc (Nat.le_refl _) _
  have HB2 : Hid (Below w.heap.size w w2) := Lib.hid (HB1.out.trans ((hba.trans (hb.mono hba.size)).mono HB1.out.size))
  have HG : Hid (w.heap.size ≤ b ∧ w.heap.size ≤ gx) := Lib.hid (by have := HB1.out.size; have := hba.size; omega)
  have HR2 : Hid (∃ X, RowAt w2 b gx n X ∧ ∀ x, x < n → X.testBit x = (decide (x = v) || (decide (x < 0) && (V 2 x).testBit v))) := Lib.hid ⟨_, hr, fun x hx => by
    show (setV n 0 (v : Int) true).testBit x = _
    rw [setV_bit hv]
    by_cases e : x = v
    · rw [if_pos e, decide_eq_true e]; rfl
    · rw [if_neg e, decide_eq_false e]; simp⟩
  obtain ⟨_, _, _, c3, _⟩ := (HC.out.below HB2.out).cells
  clear hr hb hb1 hb2 hba HB1 HROW
  go_wp2_with fail
  go_loopw [18] (fun s18 wr => ∃ i : Nat, s18 = .int .i64 (i : Int) ∧ i ≤ n ∧ Hid ((∃ X, RowAt wr b gx n X ∧ ∀ x, x < n → X.testBit x = (decide (x = v) || (decide (x < i) && (V 2 x).testBit v))) ∧ Below w.heap.size w wr)) (fun s18 _ => n - (intOf s18).toNat)
  case atStart => exact ⟨0, rfl, Nat.zero_le _, Lib.hid ⟨HR2.out, HB2.out⟩⟩
  case round =>
    clear c3
    obtain ⟨i, rfl, hi, HI⟩ := hrel
    by_cases hlt : i < n
    · have hii : (i : Int) < (n : Int) := by omega
      obtain ⟨⟨X, hX, hbits⟩, hbw⟩ := HI.out
      have hcs := HC.out.below hbw
      obtain ⟨g, hp, hlt2, hcl⟩ := hcs.way (a := 2) (by omega) hlt
      have HHAS := Lib.hid (has_any (k.rb 2 i) (k.rg 2 i) n (V 2 i) (v : Int) wr (hcs.row 2 (by omega) i hlt))
      have HVB : Hid (hasI n (V 2 i) (v : Int) = (V 2 i).testBit v) := Lib.hid (by unfold hasI; rw [decide_eq_true ⟨by omega, hvi⟩, Int.toNat_natCast, Bool.true_and])
      rw [HVB.out] at HHAS
      have HSET := Lib.hid (Bits.set_any b gx n X (i : Int) true wr hX)
      have HBI := Lib.hid hbits
      have HBW := Lib.hid hbw
      have HX := Lib.hid hX
      obtain ⟨pp, hpp⟩ : ∃ pp, pp = k.vp 2 := ⟨_, rfl⟩
      rw [← hpp] at hp ⊢
      subst hp
      clear hX hbits hbw hcs hpp HI
      cases hvb : (V 2 i).testBit v with
      | true =>
        rw [hvb] at HHAS
        go_wp2_with fail
        refine HHAS.out.mono ?_
        rintro e w3 ⟨rfl, rfl⟩
        go_wp2_with fail
        refine HSET.out.mono ?_
        rintro e w4 ⟨rfl, hr4, hg4⟩
        have HN4 : Hid ((∃ X, RowAt w4 b gx n X ∧ ∀ x, x < n → X.testBit x = (decide (x = v) || (decide (x < i + 1) && (V 2 x).testBit v))) ∧ Below w.heap.size w w4) := Lib.hid ⟨⟨_, hr4, fun x hx => by
          rw [setV_bit hlt]
          by_cases e : x = i
          · subst e
            rw [if_pos rfl, hvb, decide_eq_true (Nat.lt_succ_self x)]; simp
          · rw [if_neg e, HBI.out x hx]
            congr 2
            rw [decide_eq_decide]; omega⟩, Below.grown HBW.out hg4 HBW.out.size (fun z hz => by injection hz with hz; rw [← hz]; exact HG.out.2)⟩
        clear hr4 hg4 HSET HHAS
        go_wp2_with fail
        go_roundw
        case rel => exact ⟨i + 1, by go_num, hlt, HN4⟩
        case measure => simp [intOf]; omega
      | false =>
        rw [hvb] at HHAS
        have HN4 : Hid ((∃ X, RowAt wr b gx n X ∧ ∀ x, x < n → X.testBit x = (decide (x = v) || (decide (x < i + 1) && (V 2 x).testBit v))) ∧ Below w.heap.size w wr) := Lib.hid ⟨⟨X, HX.out, fun x hx => by
          rw [HBI.out x hx]
          by_cases e : x = i
          · subst e
            rw [hvb]; simp
          · congr 2
            rw [decide_eq_decide]; omega⟩, HBW.out⟩
        clear HSET
        go_wp2_with fail
        refine HHAS.out.mono ?_
        rintro e w3 ⟨rfl, rfl⟩
        clear HHAS
        go_wp2_with fail
        go_roundw
        case rel => exact ⟨i + 1, by go_num, hlt, HN4⟩
        case measure => simp [intOf]; omega
    · have e : n = i := by omega
      subst e
      have HRES : Hid (RowB n (fun x => decide (x = v) || (V 2 x).testBit v) w (.returned (.pointer (some ⟨b, 0, none⟩))) wr) := Lib.hid (by
        obtain ⟨⟨X, hX, hbits⟩, hbw⟩ := HI.out
        exact ⟨b, gx, X, rfl, hX, fun x hx => by rw [hbits x hx, decide_eq_true hx, Bool.true_and], hbw, HG.out.1, HG.out.2⟩)
      clear HI HC HR2
      go_wp2
      go_ret
      exact HRES.out
end Go.Proofs.YtakgepdlninnhaaDoor.Cs
