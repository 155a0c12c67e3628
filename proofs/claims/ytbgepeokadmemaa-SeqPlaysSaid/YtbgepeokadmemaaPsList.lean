/-
  Contracts of sequences: List, Index. Not a statement of the seat.
-/
import Derived.Test.YtbgepeokadmemaaPsRng
import Derived.Test.YtbgepeokadmemaaHead7
namespace Go.Proofs.Ytbgepeokadmemaa.F
open Go.ChangeShapes Go.WideShapes Go.ChangeAt Go.RowKit Go.Shelf Base Lst
attribute [local go_sem] Oper.semAt_some
theorem ownI_same {B : Nat} {w w' : World} {v : Value} {zs : List Int} (h : OwnI B w v zs) (hb : ∀ g, v.ownBlock = some g → w'.heap[g]? = w.heap[g]?) : OwnI B w' v zs := by
  obtain ⟨h1, h2⟩ := h
  refine ⟨h1, ?_⟩
  rcases h2 with h2 | ⟨g, cap, cur, hv, hB, hg, h3⟩
  · exact .inl h2
  · exact .inr ⟨g, cap, cur, hv, hB, (hb g (by rw [hv]; rfl)).trans hg, h3⟩
theorem ownI_cells {B : Nat} {w : World} {v : Value} {zs : List Int} (h : OwnI B w v zs) {g : Nat} (hg : v.ownBlock = some g) : ∃ o : Obj, w.heap[g]? = some o ∧ o.isCells = true := by
  rcases h.2 with ⟨hv, _⟩ | ⟨g', cap, cur, hv, hB, hg', h3⟩
  · rw [hv] at hg; cases hg
  · rw [hv] at hg
    injection hg with hg
    exact ⟨_, by rw [← hg]; exact hg', rfl⟩
theorem ownI_snoc {B : Nat} {w : World} {v : Value} {xs : List Int} {x : Int} {k : Nat} (h : OwnI B w v (xs ++ [x])) (hk : xs.length = k) : ∃ p c, v = .slice p (k + 1) c := by
  rcases h.form with ⟨hz, _⟩ | ⟨g, cap, hv, _⟩
  · simp at hz
  · exact ⟨_, _, by rw [hv, List.length_append, hk]; rfl⟩
/-- append within a round. -/
theorem appendIn_ints {F : Fence} {n : Nat} {ops : Array Oper} {rest : List Oper} {o : Oper} {a : Act} {Q : Exit → Act → World → Prop} (hgd : o.guard = none) (s x : Operand)
    (ho : o.op = .call { callee := .builtin .append, args := #[s, x], argTypes := #[29, 29] }) {B base : Nat} {w : World} {v u : Value} {zs ys : List Int}
    (hB : B ≤ w.heap.size) (hown : OwnI B w v zs) (hs : a.eval s = v) (hys : Ints base w u ys) (hu : ∀ n c, u = .slice none n c → c = 0) (hx : a.eval x = u) (hl : zs.length + ys.length ≤ 1000000)
    (h : ∀ v' w', OwnI B w' v' (zs ++ ys) → w.grownBy w' v.ownBlock → (v'.ownBlock = v.ownBlock ∨ v'.ownBlock = some w.heap.size) → wpListIn F n Try.prog ops Q rest (a.put o.dst v') w') :
    wpListIn F n Try.prog ops Q (o :: rest) a w := by
  refine wpListIn_plain hgd fun K hK => ?_
  obtain ⟨v', w', hr, h2, h3, h5⟩ := run_append_ints o.type hB hown hys hu hl
  unfold Oper.wpIn
  refine ⟨?_, ?_⟩
  · simp [Oper.about, ho, resolve, Target.leads, Sem.run_pure]
  · rw [Oper.semAt_plain F _ _ (by rw [ho]; intro c hc; cases hc)]
    simp [execOp, ho, resolve, invoke, builtin, hs, hx, hr, Result.andThen]
    exact hK _ _ (h v' w' h2 h3 h5)
/-- What the loop of List holds between two rounds. -/
def LJ (w : World) (xs : List Int) (k : Nat) (W : World) (S : Nat → Prop) : Prop :=
  Below w.heap.size w W ∧ ∃ v, W.heap[w.heap.size + 1]? = some (.cells #[v] 29) ∧ OwnI (w.heap.size + 2) W v (xs.take k) ∧ ¬ S (w.heap.size + 1) ∧ (∀ g, v.ownBlock = some g → ¬ S g) ∧ ∀ g, S g → w.heap.size ≤ g ∧ g < W.heap.size
theorem LJ.step {w : World} {xs : List Int} {k : Nat} {W W' : World} {S : Nat → Prop} (h : LJ w xs k W S) (hf : Fr S W W') : LJ w xs k W' (SN S W W') := by
  obtain ⟨hb, v, hx, ho, h1, h2, h3⟩ := h
  refine ⟨hb.trans (hf.below (fun g hg => (h3 g hg).1) hb.size), v, (hf.block (heap_lt hx) h1).trans hx, ownI_same ho fun g hg => hf.block (World.ownsRow.lt ho g hg).2 (h2 g hg), fun e => e.elim h1 (fun e => by have := heap_lt hx; omega), fun g hg e => e.elim (h2 g hg) (fun e => by have := (World.ownsRow.lt ho g hg).2; omega), fun g hg => ?_⟩
  have := hb.size
  have := hf.size
  rcases hg with hg | hg
  · have := h3 g hg; omega
  · omega
theorem LJ.less {w : World} {xs : List Int} {k : Nat} {W : World} {S S' : Nat → Prop} (h : LJ w xs k W S) (hs : ∀ g, S' g → S g) : LJ w xs k W S' := by
  obtain ⟨hb, v, hx, ho, h1, h2, h3⟩ := h
  exact ⟨hb, v, hx, ho, fun e => h1 (hs _ e), fun g hg e => h2 g hg (hs _ e), fun g hg => h3 g (hs _ hg)⟩
theorem LJ.put {w : World} {xs : List Int} {k : Nat} {W : World} {S : Nat → Prop} {l : Nat} {o : Obj} (o' : Obj) (h : LJ w xs k W S) (hl : W.heap[l]? = some o) (hc : o.isCells = false) (hw : w.heap.size ≤ l) : LJ w xs k (W.putObj l o') S := by
  obtain ⟨hb, v, hx, ho, h1, h2, h3⟩ := h
  have n1 : w.heap.size + 1 ≠ l := fun e => by
    rw [e, hl] at hx
    injection hx with hx
    rw [hx] at hc; cases hc
  have hbp : Below w.heap.size W (W.putObj l o') := below_put hw hl
  refine ⟨hb.trans hbp, v, (put_same n1).trans hx, ownI_same ho fun g hg => put_same fun e => ?_, h1, h2, fun g hg => ⟨(h3 g hg).1, Nat.lt_of_lt_of_le (h3 g hg).2 hbp.size⟩⟩
  obtain ⟨o2, ho2, hc2⟩ := ownI_cells ho hg
  rw [e, hl] at ho2
  injection ho2 with ho2
  rw [ho2, hc2] at hc; cases hc
theorem set_heap (W : World) (b : Nat) (v v' : Value) (T : TypeId) (h : W.heap[b]? = some (.cells #[v] T)) : (W.setCell ⟨b, 0, none⟩ v').heap[b]? = some (.cells #[v'] T) ∧ (∀ g, g ≠ b → (W.setCell ⟨b, 0, none⟩ v').heap[g]? = W.heap[g]?) ∧ (W.setCell ⟨b, 0, none⟩ v').heap.size = W.heap.size := by
  refine ⟨by simp [World.setCell, Array.getElem?_modify, h], fun g hg => by simp [World.setCell, Array.getElem?_modify, Ne.symm hg], by simp [World.setCell]⟩
theorem LJ.round {w : World} {xs : List Int} {k : Nat} {W w5 : World} {S : Nat → Prop} {v v5 : Value} {ob : Obj} {x : Int} (hb : Below w.heap.size w W) (hx : W.heap[w.heap.size + 1]? = some (.cells #[v] 29)) (ho : OwnI (w.heap.size + 2) W v (xs.take k)) (h1 : ¬ S (w.heap.size + 1)) (h2 : ∀ g, v.ownBlock = some g → ¬ S g) (h3 : ∀ g, S g → w.heap.size ≤ g ∧ g < W.heap.size)
    (hk : k < xs.length) (hxk : xs.getD k 0 = x) (h5 : OwnI (w.heap.size + 2) w5 v5 (xs.take k ++ [x])) (hg : (W.alloc ob).grownBy w5 v.ownBlock) (hat : v5.ownBlock = v.ownBlock ∨ v5.ownBlock = some (W.alloc ob).heap.size) :
    RK w.heap.size S W (w5.setCell ⟨w.heap.size + 1, 0, none⟩ v5) ∧ LJ w xs (k + 1) (w5.setCell ⟨w.heap.size + 1, 0, none⟩ v5) S := by
  have hbo : ∀ g, v.ownBlock = some g → w.heap.size + 2 ≤ g ∧ g < W.heap.size := fun g hg => World.ownsRow.lt ho g hg
  have old : ∀ g, g < W.heap.size → v.ownBlock ≠ some g → w5.heap[g]? = W.heap[g]? := fun g hlt hne => (hg.block g (by simp only [World.size_alloc]; omega) (fun e => hne e.symm)).trans (Below.heap_alloc _ _ _ hlt)
  have hx5 : w5.heap[w.heap.size + 1]? = some (.cells #[v] 29) := (old _ (heap_lt hx) (fun e => by have := (hbo _ e).1; omega)).trans hx
  obtain ⟨s1, s2, s3⟩ := set_heap w5 (w.heap.size + 1) v v5 _ hx5
  have hbw : Below w.heap.size W (w5.setCell ⟨w.heap.size + 1, 0, none⟩ v5) := by
    have q1 : Below w.heap.size W (W.alloc ob) := (Below.refl _ _).alloc hb.size _
    have q2 : Below w.heap.size W w5 := q1.grown hg (by have := hb.size; simp only [World.size_alloc]; omega) (fun g e => by have := (hbo g e).1; omega)
    exact q2.setCell (p := ⟨w.heap.size + 1, 0, none⟩) (by show w.heap.size ≤ w.heap.size + 1; omega) _
  have hsz : W.heap.size + 1 ≤ w5.heap.size := by have := hg.size; simpa only [World.size_alloc] using this
  refine ⟨⟨hbw, fun g o2 hgo hc => ?_, fun g hgS => ?_⟩, hb.trans hbw, v5, s1, ?_, h1, fun g hgo hgS => ?_, fun g hgS => ⟨(h3 g hgS).1, by have := (h3 g hgS).2; omega⟩⟩
  · have n1 : g ≠ w.heap.size + 1 := fun e => by
      rw [e, hx] at hgo; injection hgo with hgo; rw [← hgo] at hc; cases hc
    have n2 : v.ownBlock ≠ some g := fun e => by
      obtain ⟨o3, h6, h7⟩ := ownI_cells ho e
      rw [hgo] at h6; injection h6 with h6; rw [h6, h7] at hc; cases hc
    exact (s2 g n1).trans ((old g (heap_lt hgo) n2).trans hgo)
  · exact (s2 g (fun e => h1 (e ▸ hgS))).trans (old g (h3 g hgS).2 (fun e => h2 g e hgS))
  · have e : xs.take (k + 1) = xs.take k ++ [x] := by
      rw [List.take_succ_eq_append_getElem hk, ← hxk, List.getD_eq_getElem?_getD, List.getElem?_eq_getElem hk]; rfl
    rw [e]
    exact ownI_same h5 fun g hg' => s2 g (fun e => by have := (World.ownsRow.lt h5 g hg').1; omega)
  · rcases hat with e | e
    · exact h2 g (e ▸ hgo) hgS
    · rw [e] at hgo; injection hgo with hgo; have := (h3 g hgS).2; simp only [World.size_alloc] at hgo; omega
set_option maxRecDepth 100000 in
set_option maxHeartbeats 8000000 in
theorem pslist {pv : Value} {o : Option Nat} {room : Nat} {zs : List Cel} {w : World} {t : Tre} {root : Int} (h : ArV w pv o room zs) (ht : Tr zs t root) (hsz : t.size < 65536) :
    Calls Try.prog 16 #[.agg #[pv, .int .i64 root]] w fun e w' => ∃ v, e = .returned v ∧ OwnI (w.heap.size + 2) w' v t.vals ∧ Below w.heap.size w w' := by
  obtain ⟨a, rfl⟩ := h.ptr
  refine (callsIn_wide (n := 5)).1 ?_
  refine callsIn_of_wp_marks Try.func16 rfl trivial ?_ rfl
  simp only [Try.ntmps16, List.size_toArray, List.length_cons, List.length_nil, Nat.reduceAdd, Nat.reduceSub, Array.replicate_succ, Array.replicate_zero, List.push_toArray, List.append_toArray, List.nil_append, List.cons_append]
  gi_wp2
  have hB0 : Below w.heap.size w ((w.alloc (.cells #[.pointer a, .int .i64 root] 27)).alloc (.cells #[.slice none 0 0] 29)) := ((Below.refl _ _).alloc (Nat.le_refl _) _).alloc (by simp only [World.size_alloc]; omega) _
  have hvl := t.vals_len
  refine range_each (w0 := w) h ht hsz (m := 5) hB0 rfl rfl (LJ w t.vals) (fun _ _ _ => False) (fun _ _ _ _ hl hf => hl.step hf) (fun _ _ _ _ hl hs => hl.less hs) (fun _ _ _ _ _ o' hl h1 h2 h3 => hl.put o' h1 h2 (by simp only [World.size_alloc] at h3; omega)) (fun _ _ _ _ _ _ hl _ _ _ => hl) ⟨hB0, _, heap_alloc_at _ _ _ (by simp), OwnI.nil _ _, id, fun g hg => (by cases hg), fun g hg => hg.elim⟩
    (fun k => { tmps := #[.agg #[.pointer a, .int .i64 root], .pointer (some ⟨w.heap.size, 0, none⟩), .slice none 0 0, .pointer (some ⟨w.heap.size + 1, 0, none⟩), undef, .int .i64 (t.vals.getD k 0), .agg #[.pointer a, .int .i64 root], .func (.func 42) #[.agg #[.pointer a, .int .i64 root]] #[], .int .i64 (k : Int), .int .i64 (t.vals.getD k 0), undef, undef, undef, undef, undef], defers := [] }) ?assign ?body ?done ?stop
  case assign =>
    intro l k W K hK
    gi_wp2
    exact hK
  case body =>
    rintro l k W S hk ⟨hb, v, hx, ho, h1, h2, h3⟩
    have hlt : (t.vals.take k).length = k := by rw [List.length_take]; omega
    obtain ⟨p, c, hv⟩ : ∃ p c, v = .slice p k c := by
      rcases ho.form with ⟨hz, hv⟩ | ⟨g, cap, hv, _⟩
      · have : k = 0 := by rw [← hlt, hz]; rfl
        exact ⟨none, 0, by rw [hv, this]⟩
      · exact ⟨some ⟨g, 0, none⟩, cap, by rw [hv, hlt]⟩
    subst hv
    obtain ⟨x, hxk⟩ : ∃ x, t.vals.getD k 0 = x := ⟨_, rfl⟩
    have HRD := Lib.hid (fun (w5 : World) (v5 : Value) ob h5 hg hat => LJ.round (w5 := w5) (v5 := v5) (ob := ob) hb hx ho h1 h2 h3 (by omega) hxk h5 hg hat)
    have HO := Lib.hid (And.intro ho (And.intro (heap_lt hx) (show k ≤ 65536 by omega)))
    have HLT := Lib.hid hlt
    have HXW : Hid (∀ w5 : World, (W.alloc (.cells #[.int .i64 x] 3)).grownBy w5 (Value.slice p k c).ownBlock → w5.heap[w.heap.size + 1]? = some (.cells #[.slice p k c] 29)) := Lib.hid fun w5 hg => (hg.block _ (by have := heap_lt hx; simp only [World.size_alloc]; omega) (fun e => by have := (World.ownsRow.lt ho _ e.symm).1; omega)).trans ((Below.heap_alloc _ _ _ (heap_lt hx)).trans hx)
    have cx : W.cell? ⟨w.heap.size + 1, 0, none⟩ = some (.slice p k c) := by simp [World.cell?, hx]
    rw [hxk]
    clear hb hx ho h1 h2 h3 hxk hlt
    gi_wp2_with (gi_at_builtin; refine appendIn_ints rfl (.tmp 10) (.tmp 12) rfl (B := w.heap.size + 2) (by have := HO.out.2.1; simp only [World.size_alloc]; omega) (HO.out.1.below ((Below.refl _ _).alloc (Nat.le_refl _) _)) rfl (int_lit x _) (fun n c e => by cases e) rfl (by have := HO.out.2.2; rw [HLT.out]; simp only [List.length_cons, List.length_nil]; omega) ?_; intro v5 w5 h5 hg5 hat5; have hx5 := HXW.out w5 hg5; obtain ⟨p5, c5, hv5⟩ := ownI_snoc h5 HLT.out; have HRR := Lib.hid (HRD.out w5 v5 _ h5 hg5 hat5); subst hv5; have cx5 : w5.cell? ⟨w.heap.size + 1, 0, none⟩ = some (.slice p k c) := (by simp [World.cell?, hx5]); have fx5 : w5.frozen? ⟨w.heap.size + 1, 0, none⟩ = false := (by simp [World.frozen?, hx5]); clear h5 hg5 hat5 hx5)
    exact HRR.out
  case done =>
    rintro D W S hD hli hK
    have hput := LJ.put (.deferred none) hli hK rfl (by simp only [World.size_alloc] at hD; omega)
    obtain ⟨hb, v, hx, ho, h1, h2, h3⟩ := hli
    have hlt : (t.vals.take t.size).length = t.size := by rw [List.length_take]; omega
    have HP : Hid (OwnI (w.heap.size + 2) (W.putObj D (.deferred none)) v t.vals ∧ Below w.heap.size w (W.putObj D (.deferred none))) := Lib.hid (by
      obtain ⟨k1, v', k2, k3, _⟩ := hput
      have e1 : w.heap.size + 1 ≠ D := fun e => by rw [e, hK] at hx; injection hx with hx; cases hx
      rw [put_same e1, hx] at k2
      injection k2 with k2
      injection k2 with k2 _ _
      injection k2 with k2
      injection k2 with k2
      rw [← k2, List.take_of_length_le (by omega)] at k3
      exact ⟨k3, k1⟩)
    obtain ⟨p, c, hv⟩ : ∃ p c, v = .slice p t.size c := by
      rcases ho.form with ⟨hz, hv⟩ | ⟨g, cap, hv, _⟩
      · have : t.size = 0 := by rw [← hlt, hz]; rfl
        exact ⟨none, 0, by rw [hv, this]⟩
      · exact ⟨some ⟨g, 0, none⟩, cap, by rw [hv, hlt]⟩
    subst hv
    have cx : W.cell? ⟨w.heap.size + 1, 0, none⟩ = some (.slice p t.size c) := by simp [World.cell?, hx]
    clear hput hb ho h1 h2 h3 hx hlt
    gi_wp2
    refine ⟨by simp, .inl ⟨_, _, rfl, run_takeDeferred hK, ?_⟩⟩
    refine ⟨_, results_tmp rfl _ _ _, ?_⟩
    exact ⟨.slice p t.size c, rfl, HP.out⟩
  case stop =>
    rintro D k W S _ _ hl
    exact hl.elim
/-- Where a number stands first; -1: nowhere. -/
def idxS (v : Int) : List Int → Nat → Int
  | [], _ => -1
  | x :: xs, k => if x = v then (k : Int) else idxS v xs (k + 1)
theorem idx_at (v : Int) : ∀ (xs : List Int) (k0 k : Nat), k < xs.length → xs.getD k 0 = v → (∀ j, j < k → xs.getD j 0 ≠ v) → idxS v xs k0 = ((k0 + k : Nat) : Int)
  | [], _, k, hk, _, _ => by simp at hk
  | x :: xs, k0, 0, _, hv, _ => by
    rw [idxS, if_pos (by simpa using hv)]; simp
  | x :: xs, k0, k + 1, hk, hv, hj => by
    have h0 := hj 0 (by omega)
    rw [idxS, if_neg (by simpa using h0), idx_at v xs (k0 + 1) k (by simpa using hk) (by simpa using hv) (fun j hj' => by simpa using hj (j + 1) (by omega))]
    omega
theorem idx_no (v : Int) : ∀ (xs : List Int) (k0 : Nat), (∀ j, j < xs.length → xs.getD j 0 ≠ v) → idxS v xs k0 = -1
  | [], _, _ => rfl
  | x :: xs, k0, hj => by
    have h0 := hj 0 (by simp)
    rw [idxS, if_neg (by simpa using h0), idx_no v xs (k0 + 1) (fun j hj' => by simpa using hj (j + 1) (by simpa using hj'))]
/-- What the loop of Index holds between two rounds. -/
def XI (w : World) (xs : List Int) (v : Int) (k : Nat) (W : World) (S : Nat → Prop) : Prop :=
  Below w.heap.size w W ∧ W.heap[w.heap.size + 1]? = some (boxI v) ∧ W.heap[w.heap.size + 2]? = some (boxI 0) ∧ ¬ S (w.heap.size + 1) ∧ ¬ S (w.heap.size + 2) ∧ (∀ g, S g → w.heap.size ≤ g ∧ g < W.heap.size) ∧ ∀ j, j < k → xs.getD j 0 ≠ v
theorem XI.step {w : World} {xs : List Int} {v : Int} {k : Nat} {W W' : World} {S : Nat → Prop} (h : XI w xs v k W S) (hf : Fr S W W') : XI w xs v k W' (SN S W W') := by
  obtain ⟨hb, hx, hy, h1, h2, h3, h4⟩ := h
  refine ⟨hb.trans (hf.below (fun g hg => (h3 g hg).1) hb.size), (hf.block (heap_lt hx) h1).trans hx, (hf.block (heap_lt hy) h2).trans hy, fun e => e.elim h1 (fun e => by have := heap_lt hx; omega), fun e => e.elim h2 (fun e => by have := heap_lt hy; omega), fun g hg => ?_, h4⟩
  have := hb.size
  have := hf.size
  rcases hg with hg | hg
  · have := h3 g hg; omega
  · omega
theorem XI.less {w : World} {xs : List Int} {v : Int} {k : Nat} {W : World} {S S' : Nat → Prop} (h : XI w xs v k W S) (hs : ∀ g, S' g → S g) : XI w xs v k W S' := by
  obtain ⟨hb, hx, hy, h1, h2, h3, h4⟩ := h
  exact ⟨hb, hx, hy, fun e => h1 (hs _ e), fun e => h2 (hs _ e), fun g hg => h3 g (hs _ hg), h4⟩
theorem boxI_ne {W : World} {b l : Nat} {x : Int} {o : Obj} (hx : W.heap[b]? = some (boxI x)) (hl : W.heap[l]? = some o) (hc : o.isCells = false) : b ≠ l := fun e => by
  rw [e, hl] at hx
  injection hx with hx
  rw [hx] at hc; cases hc
theorem XI.put {w : World} {xs : List Int} {v : Int} {k : Nat} {W : World} {S : Nat → Prop} {l : Nat} {o : Obj} (o' : Obj) (h : XI w xs v k W S) (hl : W.heap[l]? = some o) (hc : o.isCells = false) (hw : w.heap.size ≤ l) : XI w xs v k (W.putObj l o') S := by
  obtain ⟨hb, hx, hy, h1, h2, h3, h4⟩ := h
  have hbp : Below w.heap.size W (W.putObj l o') := below_put hw hl
  exact ⟨hb.trans hbp, (put_same (boxI_ne hx hl hc)).trans hx, (put_same (boxI_ne hy hl hc)).trans hy, h1, h2, fun g hg => ⟨(h3 g hg).1, Nat.lt_of_lt_of_le (h3 g hg).2 hbp.size⟩, h4⟩
/-- Where the loop is left. -/
def XO (w : World) (xs : List Int) (v : Int) (k : Nat) (W : World) (_ : Nat → Prop) : Prop :=
  Below w.heap.size w W ∧ W.heap[w.heap.size + 2]? = some (boxI (k : Int)) ∧ xs.getD k 0 = v ∧ ∀ j, j < k → xs.getD j 0 ≠ v
theorem XI.found {w : World} {xs : List Int} {v : Int} {k : Nat} {W : World} {S : Nat → Prop} (h : XI w xs v k W S) (hv : xs.getD k 0 = v) : RK w.heap.size S W (W.setCell ⟨w.heap.size + 2, 0, none⟩ (.int .i64 (k : Int))) ∧ XO w xs v k (W.setCell ⟨w.heap.size + 2, 0, none⟩ (.int .i64 (k : Int))) S := by
  obtain ⟨hb, hx, hy, h1, h2, h3, h4⟩ := h
  obtain ⟨s1, s2, s3⟩ := set_heap W (w.heap.size + 2) (.int .i64 0) (.int .i64 (k : Int)) 3 hy
  have hbw : Below w.heap.size W (W.setCell ⟨w.heap.size + 2, 0, none⟩ (.int .i64 (k : Int))) := (Below.refl _ _).setCell (p := ⟨w.heap.size + 2, 0, none⟩) (by show w.heap.size ≤ w.heap.size + 2; omega) _
  exact ⟨⟨hbw, fun g o hg hc => (s2 g (fun e => boxI_ne hy hg hc e.symm)).trans hg, fun g hg => s2 g (fun e => h2 (e ▸ hg))⟩, hb.trans hbw, s1, hv, h4⟩
set_option maxRecDepth 100000 in
set_option maxHeartbeats 8000000 in
theorem psindex {pv : Value} {o : Option Nat} {room : Nat} {zs : List Cel} {w : World} {t : Tre} {root : Int} (v : Int) (h : ArV w pv o room zs) (ht : Tr zs t root) (hsz : t.size < 65536) :
    Calls Try.prog 17 #[.agg #[pv, .int .i64 root], .int .i64 v] w fun e w' => e = .returned (.int .i64 (idxS v t.vals 0)) ∧ Below w.heap.size w w' := by
  obtain ⟨a, rfl⟩ := h.ptr
  refine (callsIn_wide (n := 5)).1 ?_
  refine callsIn_of_wp_marks Try.func17 rfl trivial ?_ rfl
  simp only [Try.ntmps17, List.size_toArray, List.length_cons, List.length_nil, Nat.reduceAdd, Nat.reduceSub, Array.replicate_succ, Array.replicate_zero, List.push_toArray, List.append_toArray, List.nil_append, List.cons_append]
  gi_wp2
  have hB0 : Below w.heap.size w (((w.alloc (.cells #[.pointer a, .int .i64 root] 27)).alloc (.cells #[.int .i64 v] 3)).alloc (.cells #[.int .i64 0] 3)) := (((Below.refl _ _).alloc (Nat.le_refl _) _).alloc (by simp only [World.size_alloc]; omega) _).alloc (by simp only [World.size_alloc]; omega) _
  have hvl := t.vals_len
  refine range_each (w0 := w) h ht hsz (m := 5) hB0 rfl rfl (XI w t.vals v) (XO w t.vals v) (fun _ _ _ _ hl hf => hl.step hf) (fun _ _ _ _ hl hs => hl.less hs) (fun _ _ _ _ _ o' hl h1 h2 h3 => hl.put o' h1 h2 (by simp only [World.size_alloc] at h3; omega)) (fun _ _ _ _ _ o' hl h1 h2 h3 => ⟨hl.1.trans (below_put (by simp only [World.size_alloc] at h3; omega) h1), (put_same (boxI_ne hl.2.1 h1 h2)).trans hl.2.1, hl.2.2⟩) ⟨hB0, heap_alloc_lt _ _ _ _ (heap_alloc_at _ _ _ (by simp)), heap_alloc_at _ _ _ (by simp), id, id, fun g hg => hg.elim, fun j hj => absurd hj (by omega)⟩
    (fun k => { tmps := #[.agg #[.pointer a, .int .i64 root], .int .i64 v, .pointer (some ⟨w.heap.size, 0, none⟩), .pointer (some ⟨w.heap.size + 1, 0, none⟩), .pointer (some ⟨w.heap.size + 1 + 1, 0, none⟩), .int .i64 (k : Int), .int .i64 (t.vals.getD k 0), .agg #[.pointer a, .int .i64 root], .func (.func 42) #[.agg #[.pointer a, .int .i64 root]] #[], .int .i64 (k : Int), .int .i64 (t.vals.getD k 0), undef, undef, undef, undef], defers := [] }) ?assign ?body ?done ?stop
  case assign =>
    intro l k W K hK
    gi_wp2
    exact hK
  case body =>
    intro l k W S hk hxi
    have HX := Lib.hid hxi
    obtain ⟨hb, hx, hy, h1, h2, h3, h4⟩ := hxi
    obtain ⟨_, cx, _⟩ := cellsI hx
    obtain ⟨_, cy, fy⟩ := cellsI hy
    obtain ⟨x, hxk⟩ : ∃ x, t.vals.getD k 0 = x := ⟨_, rfl⟩
    have HXK := Lib.hid hxk
    have HJ := Lib.hid h4
    rw [hxk]
    clear hb hx hy h1 h2 h3 h4 hxk
    by_cases hv : x = v
    · have he : (x == v) = true := by rw [beq_iff_eq]; exact hv
      have HF := Lib.hid (HX.out.found (by rw [HXK.out]; exact hv))
      clear hv
      gi_wp2
      exact HF.out
    · have he : (x == v) = false := by rw [beq_eq_false_iff_ne]; exact hv
      have HN : Hid (RK w.heap.size S W W ∧ XI w t.vals v (k + 1) W S) := Lib.hid (by
        obtain ⟨hb, hx, hy, h1, h2, h3, h4⟩ := HX.out
        refine ⟨⟨Below.refl _ _, fun _ _ h _ => h, fun _ _ => rfl⟩, hb, hx, hy, h1, h2, h3, fun j hj => ?_⟩
        by_cases e : j = k
        · rw [e, HXK.out]; exact hv
        · exact h4 j (by omega))
      clear hv
      gi_wp2
      exact HN.out
  case done =>
    intro D W S hD hxi hK
    obtain ⟨hb, hx, hy, h1, h2, h3, h4⟩ := hxi
    have HE : Hid (idxS v t.vals 0 = -1) := Lib.hid (idx_no v _ _ (fun j hj => h4 j (by omega)))
    obtain ⟨s1, s2, s3⟩ := set_heap W (w.heap.size + 2) (.int .i64 0) (.int .i64 (-1)) 3 hy
    have hne := boxI_ne hy hK rfl
    have HK : Hid ((W.setCell ⟨w.heap.size + 2, 0, none⟩ (.int .i64 (-1))).heap[D]? = some (.deferred (some []))) := Lib.hid ((s2 D (fun e => hne e.symm)).trans hK)
    have HB : Hid (Below w.heap.size w ((W.setCell ⟨w.heap.size + 2, 0, none⟩ (.int .i64 (-1))).putObj D (.deferred none))) := Lib.hid (hb.trans (((Below.refl _ _).setCell (p := ⟨w.heap.size + 2, 0, none⟩) (by show w.heap.size ≤ w.heap.size + 2; omega) _).trans (below_put (by simp only [World.size_alloc] at hD; omega) HK.out)))
    have HR : Hid (((W.setCell ⟨w.heap.size + 2, 0, none⟩ (.int .i64 (-1))).putObj D (.deferred none)).heap[w.heap.size + 2]? = some (boxI (-1))) := Lib.hid ((put_same hne).trans s1)
    obtain ⟨_, cy, fy⟩ := cellsI hy
    clear hb hx hy h1 h2 h3 h4 s1 s2 s3 hK hne
    gi_wp2
    refine ⟨by simp, .inl ⟨_, _, rfl, run_takeDeferred (by assumption), ?_⟩⟩
    obtain ⟨_, r0, _⟩ := cellsI HR.out
    have r1 : ((W.setCell ⟨w.heap.size + 1 + 1, 0, none⟩ (.int .i64 (-1))).putObj D (.deferred none)).cell? ⟨w.heap.size + 1 + 1, 0, none⟩ = some (.int .i64 (-1)) := r0
    exact ⟨.int .i64 (-1), by simp [results, Try.results17, go_sem, r1], by rw [HE.out], HB.out⟩
  case stop =>
    intro D k W S hD hk hxo hK
    obtain ⟨hb, hy, hv, h4⟩ := hxo
    have HE : Hid (idxS v t.vals 0 = (k : Int)) := Lib.hid (by have := idx_at v t.vals 0 k (by omega) hv h4; rw [this]; simp)
    have hne := boxI_ne hy hK rfl
    have HB : Hid (Below w.heap.size w (W.putObj D (.deferred none))) := Lib.hid (hb.trans (below_put (by simp only [World.size_alloc] at hD; omega) hK))
    have HR : Hid ((W.putObj D (.deferred none)).heap[w.heap.size + 2]? = some (boxI (k : Int))) := Lib.hid ((put_same hne).trans hy)
    clear hb hy hv h4 hne
    gi_wp2
    refine ⟨by simp, .inl ⟨_, _, rfl, run_takeDeferred (by assumption), ?_⟩⟩
    obtain ⟨_, r0, _⟩ := cellsI HR.out
    have r1 : (W.putObj D (.deferred none)).cell? ⟨w.heap.size + 1 + 1, 0, none⟩ = some (.int .i64 (k : Int)) := r0
    exact ⟨.int .i64 (k : Int), by simp [results, Try.results17, go_sem, r1], by rw [HE.out], HB.out⟩
end Go.Proofs.Ytbgepeokadmemaa.F
