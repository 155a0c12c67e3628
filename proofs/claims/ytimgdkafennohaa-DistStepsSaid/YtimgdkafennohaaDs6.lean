/-
  Shortest walks: a search that is being laid, and the list of its answers. Not a statement of the seat.
-/
import Derived.Test.YtimgdkafennohaaHead20
import Derived.Test.YtimgdkafennohaaStored
namespace Go.Proofs.Ytimgdkafennohaa.Ds
open Go.ChangeShapes Go.WideShapes Go.ChangeAt Go.RowKit Base F Gr
def CF (w : World) (g : Nat) (o : Obj) (u : World) : Prop := w.heap.size ≤ g ∧ u.heap[g]? = some o
theorem CF.below {w u u' : World} {g : Nat} {o : Obj} (h : CF w g o u) (hb : Below u.heap.size u u') : CF w g o u' := ⟨h.1, (hb.block g (heap_lt h.2)).trans h.2⟩
theorem CF.lt {w u : World} {g : Nat} {o : Obj} (h : CF w g o u) : g < u.heap.size := heap_lt h.2
theorem CF.new {w U u : World} {g : Nat} {o : Obj} (hs : w.heap.size ≤ U.heap.size) (hg : g = U.heap.size) (hu : u = U.alloc o) : CF w g o u := by
  subst hg hu
  exact ⟨hs, heap_alloc_at _ _ _ rfl⟩
theorem CF.ne {w u : World} {g g' : Nat} {cs cs' : Array Value} {T T' : TypeId} (h : CF w g (.cells cs T) u) (h' : CF w g' (.cells cs' T') u) (hT : T ≠ T') : g ≠ g' := fun e => by
  have a := h.2
  rw [e, h'.2] at a
  simp only [Option.some.injEq, Obj.cells.injEq] at a
  exact hT a.2.1.symm
def RC (gR : Nat) (mask must least : Int) (X : World) : Prop := X.cell? ⟨gR, 0, none⟩ = some (.int .i64 mask) ∧ X.cell? ⟨gR, 1, none⟩ = some (.int .i64 must) ∧ X.cell? ⟨gR, 2, none⟩ = some (.int .i64 least)
theorem rc_of {X : World} {gR : Nat} {mask must least : Int} {T : TypeId} (h : X.heap[gR]? = some (.cells #[.int .i64 mask, .int .i64 must, .int .i64 least] T)) : X.cell? ⟨gR, 0, none⟩ = some (.int .i64 mask) ∧ X.cell? ⟨gR, 1, none⟩ = some (.int .i64 must) ∧ X.cell? ⟨gR, 2, none⟩ = some (.int .i64 least) := by simp [World.cell?, h]
/-- A new queue. -/
def QF (w : World) (bq n : Nat) (u : World) : Prop := ∃ gq, (w.heap.size ≤ bq ∧ w.heap.size ≤ gq) ∧ QAt u bq gq n []
theorem QF.below {w u u' : World} {b n : Nat} (h : QF w b n u) (hb : Below u.heap.size u u') : QF w b n u' := by
  obtain ⟨gq, h1, h2⟩ := h
  exact ⟨gq, h1, h2.below hb⟩
theorem hbt {w U u : World} (h : Below w.heap.size w U) (hb : Below U.heap.size U u) : Below w.heap.size w u := h.trans (hb.mono h.size)
/-- How far the answers are laid: -1 for so many nodes, else 0. -/
def upTo (i : Nat) (p : Nat) : Int := if p < 2 * i then -1 else 0
structure D0 (B : Nat) (k : Blk) (n : Nat) (mask must least : Int) (pg : Option Addr) (W : World) (i : Nat) : Prop where
  head : W.heap[k.b]? = some (srchB k n mask must least pg)
  steps : W.heap[k.bS]? = some (.cells (stepsV n (upTo i)) 65)
  que : QAt W k.bq k.gq (2 * n) []
  ge : B ≤ k.b ∧ B ≤ k.bS ∧ B ≤ k.bq ∧ B ≤ k.gq
  hn : n ≤ 4096
  size : B ≤ W.heap.size
theorem D0.below {B : Nat} {k : Blk} {n i : Nat} {mask must least : Int} {pg : Option Addr} {W W' : World} (h : D0 B k n mask must least pg W i) (hb : Below W.heap.size W W') : D0 B k n mask must least pg W' i :=
  ⟨(hb.block _ (heap_lt h.head)).trans h.head, (hb.block _ (heap_lt h.steps)).trans h.steps, h.que.below hb, h.ge, h.hn, Nat.le_trans h.size hb.size⟩
theorem zero_steps (n : Nat) : madeCells #[Value.int .i64 0, .int .i64 0] (n * 2) = stepsV n (upTo 0) := by
  apply Array.ext_getElem?
  intro p
  unfold madeCells stepsV upTo
  by_cases hp : p < 2 * n
  · have h2 : p < n * 2 := by omega
    have : p % 2 = 0 ∨ p % 2 = 1 := by omega
    rcases this with e | e <;> simp [hp, h2, e]
  · have h2 : ¬ p < n * 2 := by omega
    simp [hp, h2]
set_option maxRecDepth 100000 in
theorem wp_store_srch {o : Oper} {a : Act} {w : World} {K : Act → World → Prop} {Q : Exit → Act → World → Prop} (x y : Operand) (ho : o.op = .store 64 x y)
    (k : Blk) (n : Nat) (mask must least : Int) (pg : Option Addr) (z : Array Value) (hx : a.eval x = .pointer (some ⟨k.b, 0, none⟩)) (hy : a.eval y = .agg #[.int .i64 mask, .int .i64 must, .int .i64 least, .pointer pg, .slice (some ⟨k.bS, 0, none⟩) n n, .pointer (some ⟨k.bq, 0, none⟩)]) (hg : w.heap[k.b]? = some (.cells z 64)) (hz : z.size = 6)
    (h : ∀ w', Stored w k.b (srchB k n mask must least pg) w' → K (a.put o.dst undef) w') : o.wp Try.prog a w K Q :=
  wp_store_row _ x y ho k.b _ hx hy 64 _ hg (by kernel_rfl) hz (by simp [Value.oneCell']) (h _ (stored_setRow _ _ _ _ _ hg))
/-- The search is laid. -/
theorem D0.new {w u u' : World} {gS gq gb n : Nat} {mask must least : Int} {pg : Option Addr} {z : Array Value} (hn : n ≤ 4096) (hB : Below w.heap.size w u) (hS : CF w gS (.cells (madeCells #[.int .i64 0, .int .i64 0] (n * 2)) 65) u) (hQ : QF w gq (2 * n) u) (hb : CF w gb (.cells z 64) u) (hs : ∀ gr, Stored u gb (srchB ⟨gb, gS, gq, gr⟩ n mask must least pg) u') : ∃ gr, D0 w.heap.size ⟨gb, gS, gq, gr⟩ n mask must least pg u' 0 ∧ Below w.heap.size w u' := by
  obtain ⟨gr, ⟨h1, h2⟩, h3⟩ := hQ
  have st := hs gr
  obtain ⟨s1, s2, s3, s4, s5, s6⟩ := st
  have n1 : gS ≠ gb := fun e => by
    have a := hS.2; have b := hb.2
    rw [e, b] at a
    simp only [Option.some.injEq, Obj.cells.injEq] at a
    exact absurd a.2.1 (by decide)
  have key : ∀ {g : Nat} {cs : Array Value} {T : TypeId}, u.heap[g]? = some (Obj.cells cs T (0, 0)) → T ≠ 64 → g ≠ gb := by
    intro g cs T a hT e
    rw [e, hb.2] at a
    simp only [Option.some.injEq, Obj.cells.injEq] at a
    exact hT a.2.1.symm
  have h3' := h3
  obtain ⟨_, _, _, j, N, f, cur, _, _, _, _, h8, h9, _⟩ := h3'
  have n2 : gq ≠ gb := key h8 (by decide)
  have n3 : gr ≠ gb := key h9 (by decide)
  refine ⟨gr, ⟨s5, (s6 _ n1).trans (by rw [hS.2, zero_steps]), que_keep h3 (s6 _ n2) (s6 _ n3), ⟨hb.1, hS.1, h1, h2⟩, hn, by rw [s4]; exact hB.size⟩, Stored.below ⟨s1, s2, s3, s4, s5, s6⟩ hB hb.1⟩
theorem D0.df_lt {B : Nat} {k : Blk} {n i : Nat} {mask must least : Int} {pg : Option Addr} {W : World} (h : D0 B k n mask must least pg W i) : ∀ g, DF k g → g < W.heap.size := by
  have := h.que.lt
  rintro g (rfl | rfl | rfl | rfl)
  · exact heap_lt h.head
  · exact heap_lt h.steps
  · exact this.1
  · exact this.2
theorem D0.at_ {B : Nat} {k : Blk} {n i : Nat} {mask must least : Int} {pg : Option Addr} {W : World} (h : D0 B k n mask must least pg W i) (hi : i < n) : W.cell? ⟨k.b, 4, none⟩ = some (.slice (some ⟨k.bS, 0, none⟩) n n) ∧ (W.cell? ⟨k.bS, i * 2, none⟩ = some (.int .i64 (upTo i (i * 2))) ∧ W.frozen? ⟨k.bS, i * 2, none⟩ = false) ∧ (∀ x, (W.setCell ⟨k.bS, i * 2, none⟩ x).cell? ⟨k.bS, i * 2 + 1, none⟩ = some (.int .i64 (upTo i (i * 2 + 1)))) ∧ ∀ x, (W.setCell ⟨k.bS, i * 2, none⟩ x).frozen? ⟨k.bS, i * 2 + 1, none⟩ = false := by
  have e1 := h.steps
  have e2 : ∀ x, (W.setCell ⟨k.bS, i * 2, none⟩ x).heap[k.bS]? = some (.cells ((stepsV n (upTo i)).setIfInBounds (i * 2) x) 65) := fun x => by
    simp only [World.setCell, Array.getElem?_modify, if_true, e1, Option.map_some]
    rfl
  refine ⟨?_, ⟨?_, ?_⟩, fun x => ?_, fun x => ?_⟩
  · have hh := h.head
    unfold srchB at hh
    simp [World.cell?, hh]
  · simp only [World.cell?, e1]
    simpa using stepsV_at (f := upTo i) (p := i * 2) (by omega)
  · simp [World.frozen?, e1]
  · simp only [World.cell?, e2]
    have := stepsV_at (n := n) (f := upTo i) (p := i * 2 + 1) (by omega)
    simp [this]
  · simp [World.frozen?, e2]
/-- The answers, laid whole. -/
theorem D0.full {B : Nat} {k : Blk} {n : Nat} {mask must least : Int} {pg : Option Addr} {W : World} (h : D0 B k n mask must least pg W n) : DS B k n mask must least pg W ⟨fun _ => none, []⟩ := by
  refine ⟨h.head, ?_, h.que, h.ge, h.hn, h.size⟩
  rw [h.steps]
  congr 2
  refine stepsV_ext fun p hp => ?_
  unfold upTo stepI
  rw [if_pos hp]
/-- One node's answers are laid. -/
theorem D0.lay {B : Nat} {k : Blk} {n i : Nat} {mask must least : Int} {pg : Option Addr} {W : World} (h : D0 B k n mask must least pg W i) (hi : i < n) : D0 B k n mask must least pg ((W.setCell ⟨k.bS, 2 * i, none⟩ (.int .i64 (-1))).setCell ⟨k.bS, 2 * i + 1, none⟩ (.int .i64 (-1))) (i + 1) := by
  have key : ∀ {g g' : Nat} {cs cs' : Array Value} {T T' : TypeId}, W.heap[g]? = some (Obj.cells cs T (0, 0)) → W.heap[g']? = some (Obj.cells cs' T' (0, 0)) → T ≠ T' → g ≠ g' := by
    intro g g' cs cs' T T' h1 h2 hne e
    rw [e, h2] at h1
    simp only [Option.some.injEq, Obj.cells.injEq] at h1
    exact hne h1.2.1.symm
  obtain ⟨_, _, _, j, N, f, cur, _, _, _, _, h8, h9, _⟩ := h.que
  have hb : W.heap[k.b]? = some (Obj.cells _ 64 (0, 0)) := h.head
  have a1 : k.b ≠ k.bS := key hb h.steps (by decide)
  have a2 : k.bq ≠ k.bS := key h8 h.steps (by decide)
  have a3 : k.gq ≠ k.bS := key h9 h.steps (by decide)
  have o : ∀ g, g ≠ k.bS → ((W.setCell ⟨k.bS, 2 * i, none⟩ (.int .i64 (-1))).setCell ⟨k.bS, 2 * i + 1, none⟩ (.int .i64 (-1))).heap[g]? = W.heap[g]? := fun g hg => (setO hg).trans (setO hg)
  refine ⟨(o _ a1).trans h.head, ?_, que_keep h.que (o _ a2) (o _ a3), h.ge, h.hn, by have := h.size; simp [World.setCell]; omega⟩
  have h1 := h.steps
  have e1 : (W.setCell ⟨k.bS, 2 * i, none⟩ (.int .i64 (-1))).heap[k.bS]? = some (.cells ((stepsV n (upTo i)).setIfInBounds (2 * i) (.int .i64 (-1))) 65) := by
    simp only [World.setCell, Array.getElem?_modify, if_true, h1, Option.map_some]
    rfl
  have e2 : ((W.setCell ⟨k.bS, 2 * i, none⟩ (.int .i64 (-1))).setCell ⟨k.bS, 2 * i + 1, none⟩ (.int .i64 (-1))).heap[k.bS]? = some (.cells (((stepsV n (upTo i)).setIfInBounds (2 * i) (.int .i64 (-1))).setIfInBounds (2 * i + 1) (.int .i64 (-1))) 65) := by
    rw [World.setCell]
    simp only [Array.getElem?_modify, if_true, e1, Option.map_some]
    rfl
  rw [e2, stepsV_put (by omega), stepsV_put (by omega)]
  congr 2
  refine stepsV_ext fun p _ => ?_
  unfold upI upTo
  by_cases c1 : p = 2 * i + 1
  · rw [if_pos c1, if_pos (by omega)]
  · rw [if_neg c1]
    by_cases c2 : p = 2 * i
    · rw [if_pos c2, if_pos (by omega)]
    · rw [if_neg c2]
      by_cases c3 : p < 2 * i
      · rw [if_pos c3, if_pos (by omega)]
      · rw [if_neg c3, if_neg (by omega)]
theorem D0.lay2 {B : Nat} {k : Blk} {n i : Nat} {mask must least : Int} {pg : Option Addr} {W : World} (h : D0 B k n mask must least pg W i) (hi : i < n) : D0 B k n mask must least pg ((W.setCell ⟨k.bS, i * 2, none⟩ (.int .i64 (-1))).setCell ⟨k.bS, i * 2 + 1, none⟩ (.int .i64 (-1))) (i + 1) := by
  have := h.lay hi
  rw [show 2 * i = i * 2 by omega] at this
  exact this
/-- A list of so many numbers. -/
def intsV (m : Nat) (f : Nat → Int) : Array Value := ((List.range m).map fun i => Value.int .i64 (f i)).toArray
theorem intsV_at {m : Nat} {f : Nat → Int} {p : Nat} (h : p < m) : (intsV m f)[p]? = some (.int .i64 (f p)) := by
  unfold intsV
  simp [h]
theorem intsV_put {m : Nat} {f : Nat → Int} {p : Nat} {x : Int} (h : p < m) : (intsV m f).setIfInBounds p (.int .i64 x) = intsV m (upI f p x) := by
  apply Array.ext_getElem?
  intro k
  rw [Array.getElem?_setIfInBounds]
  unfold intsV upI
  by_cases e : p = k
  · subst e
    simp [h]
  · by_cases hk : k < m
    · simp [hk, e, Ne.symm e]
    · simp [hk, e]
theorem intsV_ext {m : Nat} {f g : Nat → Int} (h : ∀ p, p < m → f p = g p) : intsV m f = intsV m g := by
  unfold intsV
  congr 1
  refine List.map_congr_left fun p hp => ?_
  rw [h p (List.mem_range.1 hp)]
theorem intsV_zero (m : Nat) : madeCells #[Value.int .i64 0] m = intsV m (fun _ => 0) := by
  apply Array.ext_getElem?
  intro p
  unfold madeCells intsV
  by_cases hp : p < m
  · have e : p % 1 = 0 := by omega
    simp [hp, e]
  · simp [hp]
theorem own_of {w : World} {B b n : Nat} {f : Nat → Int} (h : w.heap[b]? = some (.cells (intsV n f) 3)) (hB : B ≤ b) (hn : n ≤ 1000000) : Lst.OwnI B w (.slice (some ⟨b, 0, none⟩) n n) ((List.range n).map f) := by
  unfold Lst.OwnI
  have hl : ((List.range n).map f).length = n := by simp
  rw [hl]
  refine ⟨by simp, .inr ⟨b, n, intsV n f, rfl, hB, h, Nat.le_refl _, by simp only [maxLen]; omega, by simp [intsV], ?_⟩⟩
  unfold intsV
  rw [List.map_map]
  simp
  rw [List.take_of_length_le (by simp)]
  rfl
theorem pair_info : (Try.prog.info? 65).map (fun i => (i.zero, i.size, i.bytes)) = some (some (.agg #[.int .i64 0, .int .i64 0]), 2, 16) := by kernel_rfl
theorem run_make_pairs {n : Nat} (hn : n ≤ 4096) (wx : World) : (Instr.makeSlice 59 (.int .i64 (n : Int)) (.int .i64 (n : Int))).run Try.prog wx = .ok (.slice (some ⟨wx.heap.size, 0, none⟩) n n) (wx.alloc (.cells (madeCells #[.int .i64 0, .int .i64 0] (n * 2)) 65)) := by
  obtain ⟨i, hi, hzz⟩ := Option.map_eq_some_iff.1 pair_info
  simp only [Prod.mk.injEq] at hzz
  obtain ⟨hz, hs, hb⟩ := hzz
  have hr := run_make (P := Try.prog) wx 59 65 i _ Try.underlying59 hi hz .i64 .i64 n n (by omega) (Int.le_refl _) (by rw [hb]; omega) (by omega)
  simp only [Int.toNat_natCast, hs] at hr
  exact hr
/-- The first place is met, if it may be. -/
theorem meet_start {B : Nat} {k : Blk} {n : Nat} {mask must least : Int} {pg : Option Addr} {W : World} {pv : Nat → List Nat} (h : DS B k n mask must least pg W ⟨fun _ => none, []⟩) (node : Int) : Calls Try.prog 26 #[.pointer (some ⟨k.b, 0, none⟩), .int .i64 node, .int .i64 0, .int .i64 0] W fun e W' => e = .returned (.tuple #[]) ∧ (∃ s c, DS B k n mask must least pg W' s ∧ Go_ (okP n least) pv (startP n node) c s ∧ (okP n least (startP n node) = true → s.d (startP n node) = some 0)) ∧ Fr (DF k) W W' := by
  by_cases hok : okP n least (startP n node) = true
  · have h2 := (okP_iff _).1 hok
    have hv : 0 ≤ node ∧ node < (n : Int) := by
      apply Classical.byContradiction
      intro hh
      unfold startP at h2
      rw [if_neg hh] at h2
      omega
    obtain ⟨v, rfl⟩ := Int.eq_ofNat_of_zero_le hv.1
    have e : startP n (v : Int) = 2 * v + 0 := by unfold startP; rw [if_pos hv]; simp
    have hok' := hok
    rw [e] at hok'
    refine (meet_in (st := 0) (kk := 0) h (by omega) hok' (fun _ => by have := okP_lt hok'; show 0 < 2 * n; omega)).mono ?_
    rintro e' W' ⟨rfl, h3, h4⟩
    have em : meetD (okP n least) 0 ⟨fun _ => none, []⟩ (2 * v + 0) = ⟨fun x => if x = startP n (v : Int) then some 0 else none, [startP n (v : Int)]⟩ := by
      unfold meetD
      rw [if_pos ⟨hok', rfl⟩, e]
      rfl
    rw [em] at h3
    exact ⟨rfl, ⟨_, 0, h3, start_go hok, fun _ => by simp⟩, h4⟩
  · have hx : node < max least 0 ∨ (¬ node < max least 0 ∧ (n : Int) ≤ node) := by
      rw [okP_iff] at hok
      unfold startP at hok
      by_cases hh : 0 ≤ node ∧ node < (n : Int)
      · rw [if_pos hh] at hok
        have : ¬ least ≤ node := fun hl => hok ⟨by omega, by omega⟩
        omega
      · omega
    refine (meet_out h 0 0 hx).mono ?_
    rintro e' W' ⟨rfl, rfl⟩
    refine ⟨rfl, ⟨_, 0, h, ⟨⟨fun x k e => by simp at e, fun x k e => by simp at e, fun x k e => by simp at e, fun x hx => by simp at hx, by simp, fun x k e => by simp at e, by simp⟩, fun x _ k e => by simp at e⟩, fun e => absurd e hok⟩, Fr.refl _ _⟩
/-- One is taken out of the queue. -/
theorem pop_any {B : Nat} {k : Blk} {n : Nat} {mask must least : Int} {pg : Option Addr} {W : World} {s : Ss} (h : DS B k n mask must least pg W s) : Calls Try.prog 27 #[.pointer (some ⟨k.bq, 0, none⟩)] W fun e W' => e = .returned (.tuple #[.int .i64 ((s.q.headD 0 : Nat) : Int), .bool (!s.q.isEmpty)]) ∧ DS B k n mask must least pg W' ⟨s.d, s.q.tail⟩ ∧ Fr (DF k) W W' := by
  refine (fqpop h.que).mono ?_
  rintro e W' ⟨rfl, h2, h3⟩
  have e1 : (natI s.q).tail = natI s.q.tail := by
    unfold natI
    cases s.q <;> rfl
  rw [e1] at h2
  refine ⟨?_, h.turn h2 h3, h3.mono (fun g hg => by rcases hg with rfl | rfl <;> (unfold DF; simp))⟩
  cases s.q <;> rfl
def boolN (v : Value) : Nat := match v with | .bool true => 1 | _ => 0
/-- Where the search's loop stands. -/
def LP (w : World) (k : Blk) (n : Nat) (mask must least : Int) (pg : Option Addr) (pv : Nat → List Nat) (a gl p : Nat) (b : Bool) (wr : World) : Prop := ∃ s c, DS w.heap.size k n mask must least pg wr ⟨s.d, s.q.tail⟩ ∧ Go_ (okP n least) pv a c s ∧ (okP n least a = true → s.d a = some 0) ∧ p = s.q.headD 0 ∧ b = !s.q.isEmpty ∧ CF w gl (.cells (intsV n fun _ => 0) 3) wr ∧ Below w.heap.size w wr
theorem DS.other {B : Nat} {k : Blk} {n : Nat} {mask must least : Int} {pg : Option Addr} {W W' : World} {s : Ss} (h : DS B k n mask must least pg W s) (hb : ∀ g, DF k g → W'.heap[g]? = W.heap[g]?) (hs : W.heap.size ≤ W'.heap.size) : DS B k n mask must least pg W' s :=
  ⟨(hb _ (.inl rfl)).trans h.head, (hb _ (.inr (.inl rfl))).trans h.steps, que_keep h.que (hb _ (.inr (.inr (.inl rfl)))) (hb _ (.inr (.inr (.inr rfl)))), h.ge, h.hn, Nat.le_trans h.size hs⟩
/-- Answers that are being told. -/
def part (d : Nat → Option Nat) (st i : Nat) (v : Nat) : Int := if v < i then stepI (d (2 * v + st)) else 0
/-- Where the answers are told. -/
def PP (w : World) (k : Blk) (n : Nat) (mask must least : Int) (pg : Option Addr) (d : Nat → Option Nat) (st gl i : Nat) (wr : World) : Prop := DS w.heap.size k n mask must least pg wr ⟨d, []⟩ ∧ CF w gl (.cells (intsV n (part d st i)) 3) wr ∧ Below w.heap.size w wr
theorem PP.next {w : World} {k : Blk} {n : Nat} {mask must least : Int} {pg : Option Addr} {d : Nat → Option Nat} {st gl i : Nat} {wr : World} (h : PP w k n mask must least pg d st gl i wr) (hne : ∀ g, DF k g → g ≠ gl) (hi : i < n) : PP w k n mask must least pg d st gl (i + 1) (wr.setCell ⟨gl, i, none⟩ (.int .i64 (stepI (d (2 * i + st))))) := by
  obtain ⟨h1, ⟨h2, h3⟩, h4⟩ := h
  have hsz : (wr.setCell ⟨gl, i, none⟩ (.int .i64 (stepI (d (2 * i + st))))).heap.size = wr.heap.size := by simp [World.setCell]
  refine ⟨h1.other (fun g hg => setO (hne g hg)) (by omega), ⟨h2, ?_⟩, ?_⟩
  · have : (wr.setCell ⟨gl, i, none⟩ (.int .i64 (stepI (d (2 * i + st))))).heap[gl]? = some (.cells ((intsV n (part d st i)).setIfInBounds i (.int .i64 (stepI (d (2 * i + st))))) 3) := by
      simp only [World.setCell, Array.getElem?_modify, if_true, h3, Option.map_some]
      rfl
    rw [this, intsV_put hi]
    congr 2
    refine intsV_ext fun p _ => ?_
    unfold upI part
    by_cases e : p = i
    · rw [if_pos e, if_pos (by omega), e]
    · rw [if_neg e]
      by_cases c : p < i
      · rw [if_pos c, if_pos (by omega)]
      · rw [if_neg c, if_neg (by omega)]
  · exact h4.trans (((Fr.refl (fun g => g = gl) wr).setCell rfl i (.int .i64 (stepI (d (2 * i + st))))).below (fun g e => by rw [e]; exact h2) h4.size)
theorem PP.at_ {w : World} {k : Blk} {n : Nat} {mask must least : Int} {pg : Option Addr} {d : Nat → Option Nat} {st gl i : Nat} {wr : World} (h : PP w k n mask must least pg d st gl i wr) (hi : i < n) (hst : st ≤ 1) : wr.cell? ⟨k.b, 4, none⟩ = some (.slice (some ⟨k.bS, 0, none⟩) n n) ∧ wr.cell? ⟨k.bS, i * 2 + st, none⟩ = some (.int .i64 (stepI (d (2 * i + st)))) ∧ wr.cell? ⟨gl, i, none⟩ = some (.int .i64 (part d st i i)) ∧ wr.frozen? ⟨gl, i, none⟩ = false := by
  obtain ⟨h1, ⟨h2, h3⟩, h4⟩ := h
  refine ⟨h1.cells.2.2.2.2.1, ?_, ?_, ?_⟩
  · have := (h1.step (p := 2 * i + st) (by omega)).1
    rw [show i * 2 + st = 2 * i + st by omega]
    exact this
  · simp only [World.cell?, h3]
    simpa using intsV_at (f := part d st i) hi
  · simp [World.frozen?, h3]
theorem PP.end_ {w : World} {k : Blk} {n : Nat} {mask must least : Int} {pg : Option Addr} {d : Nat → Option Nat} {st gl : Nat} {wr : World} (h : PP w k n mask must least pg d st gl n wr) (hn : n ≤ 4096) : Lst.OwnI w.heap.size wr (.slice (some ⟨gl, 0, none⟩) n n) ((List.range n).map fun v => stepI (d (2 * v + st))) := by
  obtain ⟨h1, ⟨h2, h3⟩, h4⟩ := h
  have := own_of h3 h2 (by omega)
  have e : (List.range n).map (part d st n) = (List.range n).map fun v => stepI (d (2 * v + st)) := List.map_congr_left fun v hv => by unfold part; rw [if_pos (List.mem_range.1 hv)]
  rw [e] at this
  exact this
/-- What a search tells. -/
def ansL (n st : Nat) (d : Nat → Option Nat) : List Int := (List.range n).map fun v => stepI (d (2 * v + st))
def AnsP (w : World) (n st : Nat) (ok : Nat → Bool) (pv : Nat → List Nat) (a : Nat) (e : Ending) (w' : World) : Prop := ∃ v d, e = .returned v ∧ IsD ok pv a d ∧ Lst.OwnI w.heap.size w' v (ansL n st d) ∧ Below w.heap.size w w'
end Go.Proofs.Ytimgdkafennohaa.Ds
