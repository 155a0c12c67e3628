/-
  Contracts of small functions, several texts laid into one. Not a statement of the seat.
-/
import Derived.Test.YtakgepdlninnhaaDoorHead9
import Derived.RangeFuncGives
import Derived.RangeFuncNested
import Derived.RangeFuncBound
import Derived.RangeFuncCalls
import Derived.RangeFuncLeaves
import Derived.Shelf.RegionOpen
import Derived.OwnWalkIn
import Derived.TacticsInMore
import Derived.LoopNIn
import Derived.LoopIn
namespace Go.Proofs.YtakgepdlninnhaaDoor.Gr
open Go.ChangeShapes Go.WideShapes Go.ChangeAt Go.RowKit Go.Shelf Base Ro F Dl Ln
/-- The numbers of a stretch. -/
def selX (xs : List Nat) (f t : Nat) : List Nat := (xs.drop (posU xs f)).takeWhile (fun x => decide (x < t))
theorem takeWhile_end {l : List Nat} {t k : Nat} (h : ∀ j, j < k → l.getD j 0 < t) (hk : k = l.length ∨ (k < l.length ∧ t ≤ l.getD k 0)) : l.takeWhile (fun x => decide (x < t)) = l.take k := by
  induction l generalizing k with
  | nil => simp
  | cons a l ih =>
    rcases k with _ | k
    · rcases hk with hk | ⟨_, hk⟩
      · simp at hk
      · simp only [List.getD_cons_zero] at hk
        rw [List.takeWhile_cons, if_neg (by simp; omega)]; rfl
    · have h0 := h 0 (by omega)
      simp only [List.getD_cons_zero] at h0
      rw [List.takeWhile_cons, if_pos (by simp; omega), List.take_succ_cons, ih (k := k) (fun j hj => by simpa using h (j + 1) (by omega)) (by
        rcases hk with hk | ⟨h1, h2⟩
        · left; simpa using hk
        · right; exact ⟨by simpa using h1, by simpa using h2⟩)]
/-- What the iterator reads stays. -/
def BtK (w : World) (c0 c1 c2 b f t : Nat) (V : Value) (W : World) : Prop :=
  (W.cell? ⟨c0, 0, none⟩ = some (.pointer (some ⟨b, 0, none⟩)) ∧ W.cell? ⟨c1, 0, none⟩ = some (.int .u64 (f : Int)) ∧ W.cell? ⟨c2, 0, none⟩ = some (.int .u64 (t : Int))) ∧ b < W.heap.size ∧ W.cell? ⟨b, 0, none⟩ = some V ∧ ∀ (g : Nat) (cs : Array Value) (T : TypeId), w.heap[g]? = some (Obj.cells cs T (0, 0)) → (T = 86 ∨ T = 72) → W.heap[g]? = w.heap[g]?
end Go.Proofs.YtakgepdlninnhaaDoor.Gr
namespace Go.Proofs.YtakgepdlninnhaaDoor.Gr
open Go.ChangeShapes Go.WideShapes Go.ChangeAt Go.RowKit Go.Shelf Base Ro F Dl Ln
attribute [local go_sem] Oper.semAt_some
/-- What a round keeps: what is no cells. -/
def RKc (W W' : World) : Prop := W.heap.size ≤ W'.heap.size ∧ ∀ (g : Nat) (o : Obj), W.heap[g]? = some o → o.isCells = false → W'.heap[g]? = some o
def RPc (I : List Nat → World → Prop) (ss : List Nat) (x : Nat) (W : World) : Exit → Act → World → Prop
  | .normal, _, W' => RKc W W' ∧ I (ss ++ [x]) W'
  | _, _, _ => False
end Go.Proofs.YtakgepdlninnhaaDoor.Gr
namespace Go.Proofs.YtakgepdlninnhaaDoor.Gr
open Go.ChangeShapes Go.WideShapes Go.ChangeAt Go.RowKit Go.Shelf Base Ro F Dl Ln
attribute [local go_sem] Oper.semAt_some
/-- The arc of a number. -/
def arcX (x : Nat) : Arc := ⟨((x / 17179869184 : Nat) : Int), ((x % 4096 : Nat) : Int), ((x / 4294967296 % 4 : Nat) : Int), ((x / 4096 % 1048576 : Nat) : Int)⟩
theorem arcX_num (x : Nat) : ((x : Nat) : Int) = numI (arcX x).fr (arcX x).to (arcX x).kd (arcX x).lb := by
  unfold arcX numI
  dsimp only
  omega
theorem ownA_form {B : Nat} {w : World} {v : Value} {zs : List Arc} (h : OwnArc B w v zs) : (zs = [] ∧ v = .slice none 0 0) ∨ ∃ g cap, v = .slice (some ⟨g, 0, none⟩) zs.length cap ∧ B ≤ g ∧ g < w.heap.size ∧ zs.length ≤ cap := by
  rcases h.2 with ⟨hv, h0⟩ | ⟨g, cap, cur, hv, hB, hg, hc, _⟩
  · exact .inl ⟨List.length_eq_zero_iff.1 h0, hv⟩
  · exact .inr ⟨g, cap, hv, hB, heap_lt hg, hc⟩
theorem ownA_same {B : Nat} {w w' : World} {v : Value} {zs : List Arc} (h : OwnArc B w v zs) (hb : ∀ g, v.ownBlock = some g → w'.heap[g]? = w.heap[g]?) : OwnArc B w' v zs := by
  obtain ⟨h1, h2⟩ := h
  refine ⟨h1, ?_⟩
  rcases h2 with h2 | ⟨g, cap, cur, hv, hB, hg, h3⟩
  · exact .inl h2
  · exact .inr ⟨g, cap, cur, hv, hB, (hb g (by rw [hv]; rfl)).trans hg, h3⟩
theorem ownA_cells {B : Nat} {w : World} {v : Value} {zs : List Arc} (h : OwnArc B w v zs) {g : Nat} (hg : v.ownBlock = some g) : B ≤ g ∧ g < w.heap.size ∧ ∃ cur, w.heap[g]? = some (Obj.cells cur 68 (0, 0)) := by
  rcases h.2 with ⟨hv, _⟩ | ⟨g', cap, cur, hv, hB, hg', h3⟩
  · rw [hv] at hg; cases hg
  · rw [hv] at hg
    injection hg with hg
    subst hg
    exact ⟨hB, heap_lt hg', _, hg'⟩
theorem ownA_snoc {B : Nat} {w : World} {v : Value} {xs : List Arc} {x : Arc} {k : Nat} (h : OwnArc B w v (xs ++ [x])) (hk : xs.length = k) : ∃ p c, v = .slice p (k + 1) c := by
  rcases ownA_form h with ⟨hz, _⟩ | ⟨g, cap, hv, _⟩
  · simp at hz
  · exact ⟨_, _, by rw [hv, List.length_append, hk]; rfl⟩
/-- append, as one step of a region within a round. -/
theorem stepIn_append_arcs {F : Fence} {n : Nat} {ops : Array Oper} {o : Oper} {a : Act} {w : World} {K : Act → World → Prop} {Q : Exit → Act → World → Prop} {E : Prop} (hgd : o.guard = none) (s x : Operand)
    (ho : o.op = .call { callee := .builtin .append, args := #[s, x], argTypes := #[57, 57] }) {B base : Nat} {v u : Value} {zs ys : List Arc}
    (hB : B ≤ w.heap.size) (hown : OwnArc B w v zs) (hs : a.eval s = v) (hys : Arcs base w u ys) (hx : a.eval x = u) (hl : zs.length + ys.length ≤ 1000000)
    (hK : ∀ v' w', OwnArc B w' v' (zs ++ ys) → w.grownBy w' v.ownBlock → (v'.ownBlock = v.ownBlock ∨ v'.ownBlock = some w.heap.size) → K (a.put o.dst v') w') :
    if Region.wanted o (yielded ops a.tmps) = true then Oper.wpIn F n Tryd.prog o a w K Q else E := by
  rw [if_pos (by simp [Region.wanted, hgd])]
  obtain ⟨v', w', hr, h2, h3, h5⟩ := run_append_arcs o.type hB hown hys hl
  unfold Oper.wpIn
  refine ⟨?_, ?_⟩
  · simp [Oper.about, ho, resolve, Target.leads, Sem.run_pure]
  · rw [Oper.semAt_plain F _ _ (by rw [ho]; intro c hc; cases hc)]
    simp [execOp, ho, resolve, invoke, builtin, hs, hx, hr, Result.andThen]
    exact hK _ _ h2 h3 h5
theorem set_boxA (W : World) (b : Nat) (v v' : Value) (T : TypeId) (h : W.heap[b]? = some (.cells #[v] T)) : (W.setCell ⟨b, 0, none⟩ v').heap[b]? = some (.cells #[v'] T) ∧ (∀ g, g ≠ b → (W.setCell ⟨b, 0, none⟩ v').heap[g]? = W.heap[g]?) ∧ (W.setCell ⟨b, 0, none⟩ v').heap.size = W.heap.size := by
  refine ⟨by simp [World.setCell, Array.getElem?_modify, h], fun g hg => by simp [World.setCell, Array.getElem?_modify, Ne.symm hg], by simp [World.setCell]⟩
theorem joinA {P : Prop} (J G : World → Prop) (h1 : (∀ u, J u → G u) → P) (h2 : ∀ u, J u → G u) : P := h1 h2
end Go.Proofs.YtakgepdlninnhaaDoor.Gr
namespace Go.Proofs.YtakgepdlninnhaaDoor.Gr
open Go.ChangeShapes Go.WideShapes Go.ChangeAt Go.RowKit Go.Shelf Base Ro F Dl Ln
attribute [local go_sem] Oper.semAt_some
def markD (D : Nat) : Deferred := { target := .collected D, args := #[] }
theorem leaves_marks {F : Fence} {n : Nat} {P : Program} {fn : Func} {tmps : Array Value} {R : Ending → World → Prop} (B : Nat) (Keep : World → Prop) (hk : ∀ W l, Keep W → B ≤ l → W.heap[l]? = some (.deferred (some [])) → Keep (W.putObj l (.deferred none)))
    (hr : ∀ W, Keep W → ∃ v, (results fn tmps).run P W = .ok v W ∧ R (.returned v) W) : ∀ (Ds : List Nat) (W : World), Ds.Nodup → (∀ D ∈ Ds, B ≤ D ∧ W.heap[D]? = some (.deferred (some []))) → Keep W → LeavesInM F n P fn tmps R (Ds.map markD) .returning W
  | [], W, _, _, hW => by
    obtain ⟨v, h1, h2⟩ := hr W hW
    exact ⟨v, h1, h2⟩
  | D :: Ds, W, hn, hd, hW => by
    rw [List.nodup_cons] at hn
    obtain ⟨hB0, h0⟩ := hd D (by simp)
    refine ⟨by simp, .inl ⟨D, _, rfl, run_takeDeferred h0, ?_⟩⟩
    refine leaves_marks B Keep hk hr Ds _ hn.2 (fun E hE => ⟨(hd E (by simp [hE])).1, ?_⟩) (hk W D hW hB0 h0)
    exact (World.putObj_heap_other (fun e => by rw [e] at hE; exact hn.1 hE)).trans (hd E (by simp [hE])).2
/-- A mask's bit. -/
def mbit (mask : Int) (k : Nat) : Bool := !(bits .and .i64 (mask / 2 ^ k) 1 == 0)
def fstN (a k : Nat) : Nat := a * 17179869184 + k * 4294967296
def kindL (xs : List Nat) (a : Nat) (mask : Int) (k : Nat) : List Arc := if mbit mask k then (selX xs (fstN a k) (fstN a k + 4294967296)).map arcX else []
/-- Those of the kinds ahead of k. -/
def outT (xs : List Nat) (a : Nat) (mask : Int) : Nat → List Arc
  | 0 => []
  | k + 1 => outT xs a mask k ++ (if k = 0 then [] else kindL xs a mask k)
theorem selX_len (xs : List Nat) (f t : Nat) : (selX xs f t).length ≤ xs.length := by
  unfold selX
  exact Nat.le_trans (List.takeWhile_sublist _).length_le (by rw [List.length_drop]; omega)
theorem tw_lt (t : Nat) : ∀ (l : List Nat) (x : Nat), x ∈ l.takeWhile (fun x => decide (x < t)) → x < t
  | [], _, h => by simp at h
  | y :: l, x, h => by
    rw [List.takeWhile_cons] at h
    split at h
    · rename_i hy
      rcases List.mem_cons.1 h with rfl | h
      · simpa using hy
      · exact tw_lt t l x h
    · cases h
theorem selX_lt {xs : List Nat} {f t x : Nat} (h : x ∈ selX xs f t) : x < t := tw_lt t _ x h
theorem outT_len (xs : List Nat) (a : Nat) (mask : Int) : ∀ k, (outT xs a mask k).length ≤ k * xs.length
  | 0 => by simp [outT]
  | k + 1 => by
    unfold outT
    rw [List.length_append]
    have := outT_len xs a mask k
    have h2 : (if k = 0 then [] else kindL xs a mask k).length ≤ xs.length := by
      split
      · simp
      · unfold kindL
        split
        · rw [List.length_map]; exact selX_len _ _ _
        · simp
    rw [Nat.succ_mul]
    omega
theorem own_put {B l : Nat} {W : World} {v : Value} {zs : List Arc} {o o' : Obj} (h : OwnArc B W v zs) (hl : W.heap[l]? = some o) (hc : o.isCells = false) : OwnArc B (W.putObj l o') v zs :=
  ownA_same h fun g hg => by
    obtain ⟨_, _, cur, hcur⟩ := ownA_cells h hg
    refine World.putObj_heap_other fun e => ?_
    rw [e, hl] at hcur
    injection hcur with hcur
    rw [hcur] at hc
    cases hc
theorem below_putO {B l : Nat} {w W : World} {o' : Obj} (h : Below B w W) (hl : B ≤ l) (hB : B ≤ W.heap.size) : Below B w (W.putObj l o') :=
  h.grown (row := some l) ⟨rfl, rfl, rfl, by simp, fun k _ hk => World.putObj_heap_other (fun e => hk (by rw [e]))⟩ hB (fun k e => by cases e; exact hl)
/-- What gather's loop holds. -/
def GK (w0 : World) (E : Nat) (zs : List Arc) (W : World) (Ds : List Nat) : Prop :=
  Below w0.heap.size w0 W ∧ (∃ v, W.heap[E]? = some (.cells #[v] 57) ∧ OwnArc w0.heap.size W v zs) ∧ Ds.Nodup ∧ ∀ D ∈ Ds, w0.heap.size ≤ D ∧ W.heap[D]? = some (.deferred (some []))
def GatP (w0 : World) (zs : List Arc) (e : Ending) (w' : World) : Prop := ∃ v, e = .returned v ∧ OwnArc w0.heap.size w' v zs ∧ Below w0.heap.size w0 w'
end Go.Proofs.YtakgepdlninnhaaDoor.Gr
namespace Go.Proofs.YtakgepdlninnhaaDoor.Gr
open Go.ChangeShapes Go.WideShapes Go.ChangeAt Go.RowKit Go.Shelf Base Ro F Dl Ln
theorem filter_app {p q : Nat → Bool} (hpq : ∀ x y, p x = true → q y = true → x < y) : ∀ {xs : List Nat}, xs.Pairwise (· < ·) → xs.filter p ++ xs.filter q = xs.filter (fun x => p x || q x)
  | [], _ => rfl
  | z :: l, h => by
    rw [List.pairwise_cons] at h
    have ih := filter_app hpq h.2
    cases hp : p z with
    | true =>
      have hq : q z = false := by
        cases hq : q z with
        | false => rfl
        | true => exact absurd (hpq z z hp hq) (Nat.lt_irrefl _)
      simp only [List.filter_cons, hp, hq, Bool.true_or, if_true, List.cons_append, Bool.false_eq_true, if_false]
      rw [ih]
    | false =>
      cases hq : q z with
      | true =>
        have he : l.filter p = [] := by
          rw [List.filter_eq_nil_iff]
          intro x hx hpx
          have := h.1 x hx
          have := hpq x z hpx hq
          omega
        rw [he, List.nil_append] at ih
        simp only [List.filter_cons, hp, hq, Bool.or_true, if_true, Bool.false_eq_true, if_false, he, List.nil_append]
        rw [ih]
      | false =>
        simp only [List.filter_cons, hp, hq, Bool.or_false, Bool.false_eq_true, if_false]
        exact ih
theorem tw_filter (t : Nat) : ∀ {l : List Nat}, l.Pairwise (· < ·) → l.takeWhile (fun x => decide (x < t)) = l.filter (fun x => decide (x < t))
  | [], _ => rfl
  | y :: l, h => by
    rw [List.pairwise_cons] at h
    rw [List.takeWhile_cons, List.filter_cons]
    by_cases hy : y < t
    · rw [if_pos (by simpa using hy), if_pos (by simpa using hy), tw_filter t h.2]
    · rw [if_neg (by simpa using hy), if_neg (by simpa using hy)]
      symm
      rw [List.filter_eq_nil_iff]
      intro x hx
      have := h.1 x hx
      simp only [decide_eq_true_eq]
      omega
theorem selX_filter (f t : Nat) : ∀ {xs : List Nat}, xs.Pairwise (· < ·) → selX xs f t = xs.filter (fun x => decide (f ≤ x) && decide (x < t))
  | [], _ => rfl
  | y :: l, h => by
    have h' := h
    rw [List.pairwise_cons] at h
    have ih := selX_filter f t h.2
    unfold selX at ih ⊢
    unfold posU
    by_cases hy : y < f
    · rw [if_pos hy, List.drop_succ_cons, ih, List.filter_cons, if_neg (by simp; omega)]
    · rw [if_neg hy, List.drop_zero, tw_filter t h']
      refine List.filter_congr fun x hx => ?_
      have hfx : f ≤ x := by
        rcases List.mem_cons.1 hx with rfl | hx
        · omega
        · have := h.1 x hx; omega
      simp [hfx]
def kdN (x : Nat) : Nat := x / 4294967296 % 4
def frN (x : Nat) : Nat := x / 17179869184
theorem kindL_filter {xs : List Nat} (h : xs.Pairwise (· < ·)) (a : Nat) (mask : Int) {k : Nat} (hk : k < 4) : kindL xs a mask k = (xs.filter (fun x => decide (frN x = a ∧ kdN x = k) && mbit mask (kdN x))).map arcX := by
  unfold kindL
  by_cases hm : mbit mask k = true
  · rw [if_pos hm, selX_filter _ _ h]
    congr 1
    refine List.filter_congr fun x _ => ?_
    by_cases hx : frN x = a ∧ kdN x = k
    · rw [decide_eq_true hx, hx.2, hm]
      unfold frN kdN at hx
      unfold fstN
      simp only [Bool.and_true, Bool.and_eq_true, decide_eq_true_eq]
      omega
    · rw [decide_eq_false hx, Bool.false_and]
      unfold frN kdN at hx
      unfold fstN
      simp only [Bool.and_eq_false_iff, decide_eq_false_iff_not]
      omega
  · rw [if_neg hm]
    symm
    rw [List.map_eq_nil_iff, List.filter_eq_nil_iff]
    intro x _ hx
    simp only [Bool.and_eq_true, decide_eq_true_eq] at hx
    rw [hx.1.2] at hx
    exact hm hx.2
theorem outT_filter {xs : List Nat} (h : xs.Pairwise (· < ·)) (a : Nat) (mask : Int) : ∀ k, k ≤ 4 → outT xs a mask k = (xs.filter (fun x => decide (frN x = a ∧ 1 ≤ kdN x ∧ kdN x < k) && mbit mask (kdN x))).map arcX
  | 0, _ => by
    symm
    rw [outT, List.map_eq_nil_iff, List.filter_eq_nil_iff]
    intro x _ hx
    simp only [Bool.and_eq_true, decide_eq_true_eq] at hx
    omega
  | k + 1, hk => by
    rw [outT, outT_filter h a mask k (by omega)]
    by_cases h0 : k = 0
    · rw [if_pos h0, List.append_nil]
      congr 1
      refine List.filter_congr fun x _ => ?_
      congr 1
      rw [decide_eq_decide]
      omega
    · rw [if_neg h0, kindL_filter h a mask (by omega), ← List.map_append, filter_app (fun x y hx hy => ?_) h]
      · congr 1
        refine List.filter_congr fun x _ => ?_
        rw [← Bool.and_or_distrib_right]
        congr 1
        rw [← Bool.decide_or, decide_eq_decide]
        omega
      · have h1 := (Bool.and_eq_true_iff.1 hx).1
        have h2 := (Bool.and_eq_true_iff.1 hy).1
        have h1 := of_decide_eq_true h1
        have h2 := of_decide_eq_true h2
        unfold frN kdN at h1 h2
        omega
/-- All arcs of a mask whose node is ahead of n. -/
def arcsT (xs : List Nat) (mask : Int) : Nat → List Arc
  | 0 => []
  | n + 1 => arcsT xs mask n ++ outT xs n mask 4
theorem arcsT_filter {xs : List Nat} (h : xs.Pairwise (· < ·)) (mask : Int) : ∀ n, arcsT xs mask n = (xs.filter (fun x => decide (frN x < n ∧ 1 ≤ kdN x) && mbit mask (kdN x))).map arcX
  | 0 => by
    symm
    rw [arcsT, List.map_eq_nil_iff, List.filter_eq_nil_iff]
    intro x _ hx
    simp only [Bool.and_eq_true, decide_eq_true_eq] at hx
    omega
  | n + 1 => by
    rw [arcsT, arcsT_filter h mask n, outT_filter h n mask 4 (by omega), ← List.map_append, filter_app (fun x y hx hy => ?_) h]
    · congr 1
      refine List.filter_congr fun x _ => ?_
      rw [← Bool.and_or_distrib_right]
      congr 1
      rw [← Bool.decide_or, decide_eq_decide]
      unfold kdN
      omega
    · have h1 := of_decide_eq_true (Bool.and_eq_true_iff.1 hx).1
      have h2 := of_decide_eq_true (Bool.and_eq_true_iff.1 hy).1
      unfold frN at h1 h2
      omega
theorem arcsT_len {xs : List Nat} (h : xs.Pairwise (· < ·)) (mask : Int) (n : Nat) : (arcsT xs mask n).length ≤ xs.length := by
  rw [arcsT_filter h, List.length_map]
  exact List.length_filter_le _ _
end Go.Proofs.YtakgepdlninnhaaDoor.Gr
namespace Go.Proofs.YtakgepdlninnhaaDoor.Gr
open Go.ChangeShapes Go.WideShapes Go.ChangeAt Go.RowKit Go.Shelf Base Ro F Dl Ln
end Go.Proofs.YtakgepdlninnhaaDoor.Gr
