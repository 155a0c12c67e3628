/-
  slices.AppendSeq, slices.Collect over maps.Keys at counts: a new slice of the edges that have an entry. Not a statement of the seat.
-/
import Derived.Test.YtfdaekppheabeaaHead19
import Derived.Test.YtfdaekppheabeaaHead17
import Derived.Test.YtfdaekppheabeaaHead16
namespace Go.Proofs.Ytfdaekppheabeaa.Dg
open Go.ChangeShapes Go.WideShapes Go.ChangeAt Go.RowKit Go.Shelf Base F Tx Hi
attribute [local go_sem] Oper.semAt_some
open Pk (OwnE)
theorem ownE_form {B : Nat} {w : World} {v : Value} {zs : List Pk.E} (h : OwnE B w v zs) : (zs = [] ∧ v = .slice none 0 0) ∨ ∃ g cap, v = .slice (some ⟨g, 0, none⟩) zs.length cap ∧ B ≤ g ∧ g < w.heap.size ∧ zs.length ≤ cap := by
  rcases h.2 with ⟨hv, h0⟩ | ⟨g, cap, cur, hv, hB, hg, hc, _⟩
  · exact .inl ⟨List.length_eq_zero_iff.1 h0, hv⟩
  · exact .inr ⟨g, cap, hv, hB, heap_lt hg, hc⟩
theorem ownE_same {B : Nat} {w w' : World} {v : Value} {zs : List Pk.E} (h : OwnE B w v zs) (hb : ∀ g, v.ownBlock = some g → w'.heap[g]? = w.heap[g]?) : OwnE B w' v zs := by
  obtain ⟨h1, h2⟩ := h
  refine ⟨h1, ?_⟩
  rcases h2 with h2 | ⟨g, cap, cur, hv, hB, hg, h3⟩
  · exact .inl h2
  · exact .inr ⟨g, cap, cur, hv, hB, (hb g (by rw [hv]; rfl)).trans hg, h3⟩
theorem ownE_cells {B : Nat} {w : World} {v : Value} {zs : List Pk.E} (h : OwnE B w v zs) {g : Nat} (hg : v.ownBlock = some g) : B ≤ g ∧ g < w.heap.size ∧ ∃ o : Obj, w.heap[g]? = some o ∧ o.isCells = true := by
  rcases h.2 with ⟨hv, _⟩ | ⟨g', cap, cur, hv, hB, hg', h3⟩
  · rw [hv] at hg; cases hg
  · rw [hv] at hg
    injection hg with hg
    subst hg
    exact ⟨hB, heap_lt hg', _, hg', rfl⟩
theorem ownsRow_less {w : World} {base base' : Nat} {e : TypeId} {size n : Nat} {v : Value} {xs : List Value} (h : w.ownsRow base e size v n xs) (hb : base' ≤ base) : w.ownsRow base' e size v n xs := by
  refine ⟨h.1, ?_⟩
  rcases h.2 with hn | ⟨g, cap, cur, hv, hbg, rest⟩
  · exact .inl hn
  · exact .inr ⟨g, cap, cur, hv, Nat.le_trans hb hbg, rest⟩
/-- append within a round. -/
theorem appendIn_edge {F : Fence} {n : Nat} {ops : Array Oper} {rest : List Oper} {o : Oper} {a : Act} {Q : Exit → Act → World → Prop} (hgd : o.guard = none) (s x : Operand)
    (ho : o.op = .call { callee := .builtin .append, args := #[s, x], argTypes := #[63, 63] }) {B : Nat} {w : World} {v : Value} {zs : List Pk.E} (z : Pk.E)
    (hB : B ≤ w.heap.size) (hown : OwnE B w v zs) (hs : a.eval s = v) {g : Nat} (hx : a.eval x = .slice (some ⟨g, 0, none⟩) 1 1) (hg : g = w.heap.size) (hl : zs.length ≤ 1000000)
    (h : ∀ v' w', OwnE B w' v' (zs ++ [z]) → (w.alloc (.cells #[.int .i64 z.1, .int .i64 z.2.1, .int .i64 z.2.2.1, .int .i64 z.2.2.2] 32)).grownBy w' v.ownBlock → wpListIn F n Try.prog ops Q rest (a.put o.dst v') w') :
    wpListIn F n Try.prog ops Q (o :: rest) a (w.alloc (.cells #[.int .i64 z.1, .int .i64 z.2.1, .int .i64 z.2.2.1, .int .i64 z.2.2.2] 32)) := by
  subst hg
  obtain ⟨i0, hi, hz0, hz1, hz2⟩ := info_parts Pk.info
  refine wpListIn_append_own _ hgd s x 63 ho B 32 i0 (.agg #[.int .i64 0, .int .i64 0, .int .i64 0, .int .i64 0]) 4 32 Try.underlying63 hi hz0 hz1 hz2 rfl (by decide) v zs.length (zs.flatMap Pk.encE) hs (World.ownsRow.alloc hown _) ⟨w.heap.size, 0, none⟩ 1 1 (Pk.encE z) hx rfl ?_ ?_ (by simp only [maxLen]; omega) (by omega) (by simp; omega) ?_
  · intro t u hu
    match t, hu with
    | 0, hu => simp [Pk.encE] at hu; subst hu; simp [Addr.add]
    | 1, hu => simp [Pk.encE] at hu; subst hu; simp [Addr.add]
    | 2, hu => simp [Pk.encE] at hu; subst hu; simp [Addr.add]
    | 3, hu => simp [Pk.encE] at hu; subst hu; simp [Addr.add]
    | t + 4, hu => simp [Pk.encE] at hu
  · intro u hu
    simp [Pk.encE] at hu
    rcases hu with rfl | rfl | rfl | rfl <;> rfl
  · intro v' w' hown' hg _
    refine h v' w' ?_ hg
    unfold OwnE
    rw [List.length_append, List.flatMap_append]
    simpa using hown'
/-- What the loop of AppendSeq holds. -/
def CI (w : World) (ss : List Edg) (W : World) : Prop := Below w.heap.size w W ∧ ∃ v, W.heap[w.heap.size]? = some (.cells #[v] 63) ∧ OwnE (w.heap.size + 1) W v (ss.map toE)
theorem CI.step {w : World} {ss : List Edg} {W W' : World} {row : Option Nat} (h : CI w ss W) (hg : W.grownBy W' row) (hr : ∀ r, row = some r → w.heap.size + 1 ≤ r ∧ ∃ o : Obj, W.heap[r]? = some o ∧ o.isCells = false) : CI w ss W' := by
  obtain ⟨hb, v, hx, ho⟩ := h
  refine ⟨hb.grown hg hb.size (fun k e => by have := (hr k e).1; omega), v, (hg.block _ (heap_lt hx) (fun e => by have := (hr _ e.symm).1; omega)).trans hx, ownE_same ho fun g hgo => ?_⟩
  obtain ⟨q1, q2, o, q3, q4⟩ := ownE_cells ho hgo
  refine hg.block g q2 fun e => ?_
  obtain ⟨_, o2, r1, r2⟩ := hr g e.symm
  rw [q3] at r1
  injection r1 with r1
  rw [← r1, q4] at r2
  cases r2
theorem CI.put {w : World} {ss : List Edg} {W : World} {l : Nat} {o : Obj} (o' : Obj) (h : CI w ss W) (hl : W.heap[l]? = some o) (hc : o.isCells = false) (hw : w.heap.size + 1 ≤ l) : CI w ss (W.putObj l o') :=
  h.step (row := some l) ⟨rfl, rfl, rfl, by simp, fun k _ hk => World.putObj_heap_other (fun e => hk (by rw [e]))⟩ (fun r e => by cases e; exact ⟨hw, o, hl, hc⟩)
theorem set_box (W : World) (b : Nat) (v v' : Value) (T : TypeId) (h : W.heap[b]? = some (.cells #[v] T)) : (W.setCell ⟨b, 0, none⟩ v').heap[b]? = some (.cells #[v'] T) ∧ (∀ g, g ≠ b → (W.setCell ⟨b, 0, none⟩ v').heap[g]? = W.heap[g]?) ∧ (W.setCell ⟨b, 0, none⟩ v').heap.size = W.heap.size := by
  refine ⟨by simp [World.setCell, Array.getElem?_modify, h], fun g hg => by simp [World.setCell, Array.getElem?_modify, Ne.symm hg], by simp [World.setCell]⟩
theorem CI.round {w : World} {ss : List Edg} {x : Edg} {W w5 : World} {v v5 : Value} {ob : Obj} (hb : Below w.heap.size w W) (hx : W.heap[w.heap.size]? = some (.cells #[v] 63)) (ho : OwnE (w.heap.size + 1) W v (ss.map toE)) (h5 : OwnE (w.heap.size + 1) w5 v5 (ss.map toE ++ [toE x])) (hg : (W.alloc ob).grownBy w5 v.ownBlock) :
    RKc W (w5.setCell ⟨w.heap.size, 0, none⟩ v5) ∧ CI w (ss ++ [x]) (w5.setCell ⟨w.heap.size, 0, none⟩ v5) := by
  have hbo : ∀ g, v.ownBlock = some g → w.heap.size + 1 ≤ g ∧ g < W.heap.size := fun g hg => ⟨(ownE_cells ho hg).1, (ownE_cells ho hg).2.1⟩
  have old : ∀ g, g < W.heap.size → v.ownBlock ≠ some g → w5.heap[g]? = W.heap[g]? := fun g hlt hne => (hg.block g (by simp only [World.size_alloc]; omega) (fun e => hne e.symm)).trans (Below.heap_alloc _ _ _ hlt)
  have hx5 : w5.heap[w.heap.size]? = some (.cells #[v] 63) := (old _ (heap_lt hx) (fun e => by have := (hbo _ e).1; omega)).trans hx
  obtain ⟨s1, s2, s3⟩ := set_box w5 w.heap.size v v5 _ hx5
  have hsz : W.heap.size + 1 ≤ w5.heap.size := by have := hg.size; simpa only [World.size_alloc] using this
  have q1 : Below w.heap.size W (W.alloc ob) := (Below.refl _ _).alloc hb.size _
  have q2 : Below w.heap.size W w5 := q1.grown hg (by have := hb.size; simp only [World.size_alloc]; omega) (fun g e => by have := (hbo g e).1; omega)
  have hbw : Below w.heap.size W (w5.setCell ⟨w.heap.size, 0, none⟩ v5) := q2.setCell (p := ⟨w.heap.size, 0, none⟩) (Nat.le_refl _) _
  refine ⟨⟨by omega, fun g o2 hgo hc => ?_⟩, hb.trans hbw, v5, s1, ?_⟩
  · have n1 : g ≠ w.heap.size := fun e => by
      rw [e, hx] at hgo; injection hgo with hgo; rw [← hgo] at hc; cases hc
    have n2 : v.ownBlock ≠ some g := fun e => by
      obtain ⟨_, _, o3, h6, h7⟩ := ownE_cells ho e
      rw [hgo] at h6; injection h6 with h6; rw [h6, h7] at hc; cases hc
    exact (s2 g n1).trans ((old g (heap_lt hgo) n2).trans hgo)
  · rw [List.map_append]
    exact ownE_same h5 fun g hg' => s2 g (fun e => by have := (ownE_cells h5 hg').1; omega)
theorem ownE_snoc {B : Nat} {w : World} {v : Value} {xs : List Pk.E} {x : Pk.E} {k : Nat} (h : OwnE B w v (xs ++ [x])) (hk : xs.length = k) : ∃ p c, v = .slice p (k + 1) c := by
  rcases ownE_form h with ⟨hz, _⟩ | ⟨g, cap, hv, _⟩
  · simp at hz
  · exact ⟨_, _, by rw [hv, List.length_append, hk]; rfl⟩
/-- What Collect leaves. -/
def ClP (f : Edg → Int) (n : Nat) (w : World) (e : Ending) (w' : World) : Prop := ∃ (v : Value) (ss : List Edg), e = .returned v ∧ (ss.Nodup ∧ ss.length ≤ n) ∧ (∀ x ∈ ss, f x ≠ 0) ∧ (∀ x, Edg.ok x → f x ≠ 0 → x ∈ ss) ∧ OwnE w.heap.size w' v (ss.map toE) ∧ Below w.heap.size w w'
set_option maxRecDepth 100000 in
set_option maxHeartbeats 8000000 in
theorem appendSeq_any {bm b n : Nat} {f : Edg → Int} (w : World) (hbx : w.heap[bm]? = some (.cells #[.map (some b)] 51)) (hm : ME w b n f) (hn : n ≤ 1000000) :
    Calls Try.prog 40 #[.slice none 0 0, .func (.func 41) #[] #[.pointer (some ⟨bm, 0, none⟩)]] w (ClP f n w) := by
  refine (callsIn_wide (n := 5)).1 ?_
  refine callsIn_of_wp_marks Try.func40 rfl trivial ?_ rfl
  simp only [Try.ntmps40, List.size_toArray, List.length_cons, List.length_nil, Nat.reduceAdd, Nat.reduceSub, Array.replicate_succ, Array.replicate_zero, List.push_toArray, List.append_toArray, List.nil_append, List.cons_append]
  gi_wp2
  have hB0 : Below w.heap.size w (w.alloc (.cells #[.slice none 0 0] 63)) := (Below.refl _ _).alloc (Nat.le_refl _) _
  have hs0 : (w.alloc (.cells #[.slice none 0 0] 63)).heap.size = w.heap.size + 1 := by simp
  refine range_keys (w := w.alloc (.cells #[.slice none 0 0] 63)) (m := 5) (f := f) (bm := bm) (b := b) (n := n) ((hB0.block _ (heap_lt hbx)).trans hbx) (hm.below hB0) rfl rfl (CI w) (fun ss W W' row h hg hr => h.step hg (fun r e => by obtain ⟨q1, o, q2, q3⟩ := hr r e; exact ⟨by omega, o, q2, walk_cells q3⟩)) (fun ss W l o o' h h1 h2 h3 => h.put o' h1 h2 (by omega)) ⟨hB0, _, heap_alloc_at _ _ _ rfl, OwnE.nil _ _⟩
    (fun x q => { tmps := #[.slice none 0 0, .func (.func 41) #[] #[.pointer (some ⟨bm, 0, none⟩)], .pointer (some ⟨w.heap.size, 0, none⟩), undef, .slice none 0 0, .pointer (some ⟨q, 0, none⟩), .func (.func 41) #[] #[.pointer (some ⟨bm, 0, none⟩)], gE x, undef, undef, undef, undef, undef], defers := [] }) ?assign ?body ?done
  case assign =>
    intro l x W K hK
    obtain ⟨x0, x1, x2, x3⟩ := x
    unfold gE at hK ⊢
    dsimp only at hK ⊢
    gi_wp2
    exact hK
  case body =>
    rintro l x q W ss hlen ⟨hb, v, hx, ho⟩ hq
    have hlt : (ss.map toE).length = ss.length := by simp
    obtain ⟨k, hk⟩ : ∃ k, k = ss.length := ⟨_, rfl⟩
    obtain ⟨p, c, hv⟩ : ∃ p c, v = .slice p k c := by
      rcases ownE_form ho with ⟨hz, hv⟩ | ⟨g, cap, hv, _⟩
      · have : k = 0 := by rw [hk, ← hlt, hz]; rfl
        exact ⟨none, 0, by rw [hv, this]⟩
      · exact ⟨some ⟨g, 0, none⟩, cap, by rw [hv, hlt, hk]⟩
    subst hv
    obtain ⟨x0, x1, x2, x3⟩ := x
    have HRD := Lib.hid (fun (w5 : World) (v5 : Value) ob h5 hg => CI.round (w5 := w5) (v5 := v5) (ob := ob) (x := ⟨x0, x1, x2, x3⟩) hb hx ho h5 hg)
    have HO := Lib.hid (And.intro ho (And.intro (heap_lt hx) (show (ss.map toE).length ≤ 1000000 by omega)))
    have HLT : Hid ((ss.map toE).length = k) := Lib.hid (by omega)
    have HXW : Hid (∀ w5 : World, (W.alloc (.cells #[.int .i64 x0, .int .i64 x1, .int .i64 x2, .int .i64 x3] 32)).grownBy w5 (Value.slice p k c).ownBlock → w5.heap[w.heap.size]? = some (.cells #[.slice p k c] 63)) := Lib.hid fun w5 hg => (hg.block _ (by have := heap_lt hx; simp only [World.size_alloc]; omega) (fun e => by have := (ownE_cells ho e.symm).1; omega)).trans ((Below.heap_alloc _ _ _ (heap_lt hx)).trans hx)
    have cx : W.cell? ⟨w.heap.size, 0, none⟩ = some (.slice p k c) := by simp [World.cell?, hx]
    have cq : W.cell? ⟨q, 0, none⟩ = some (.int .i64 x0) ∧ W.cell? ⟨q, 1, none⟩ = some (.int .i64 x1) ∧ W.cell? ⟨q, 2, none⟩ = some (.int .i64 x2) ∧ W.cell? ⟨q, 3, none⟩ = some (.int .i64 x3) := by simp [World.cell?, hq]
    obtain ⟨c0, c1, c2, c3⟩ := cq
    have hwl := heap_lt hx
    have hql := heap_lt hq
    unfold gE
    dsimp only
    clear hb hx ho hq hlt hlen hk
    gi_wp2_with (gi_at_builtin; refine appendIn_edge rfl (.tmp 8) (.tmp 10) rfl (x0, x1, x2, x3) (B := w.heap.size + 1) (by have := HO.out.2.1; omega) HO.out.1 rfl rfl rfl HO.out.2.2 ?_; intro v5 w5 h5 hg5; have hx5 := HXW.out w5 hg5; obtain ⟨p5, c5, hv5⟩ := ownE_snoc h5 HLT.out; have HRR := Lib.hid (HRD.out w5 v5 _ h5 hg5); subst hv5; have cx5 : w5.cell? ⟨w.heap.size, 0, none⟩ = some (.slice p k c) := (by simp [World.cell?, hx5]); have fx5 : w5.frozen? ⟨w.heap.size, 0, none⟩ = false := (by simp [World.frozen?, hx5]); clear h5 hg5 hx5)
    exact HRR.out
  case done =>
    rintro D W ss hD s1 s2 s3 hci hK
    have hput := CI.put (.deferred none) hci hK rfl (by omega)
    obtain ⟨hb, v, hx, ho⟩ := hci
    have HP : Hid (OwnE w.heap.size (W.putObj D (.deferred none)) v (ss.map toE) ∧ Below w.heap.size w (W.putObj D (.deferred none))) := Lib.hid (by
      obtain ⟨k1, v', k2, k3⟩ := hput
      have e1 : w.heap.size ≠ D := fun e => by rw [e, hK] at hx; injection hx with hx; cases hx
      rw [World.putObj_heap_other e1, hx] at k2
      injection k2 with k2
      injection k2 with k2 _ _
      injection k2 with k2
      injection k2 with k2
      rw [← k2] at k3
      exact ⟨ownsRow_less k3 (by omega), k1⟩)
    have cx : W.cell? ⟨w.heap.size, 0, none⟩ = some v := by simp [World.cell?, hx]
    have HS := Lib.hid (And.intro s1 (And.intro s2 s3))
    have HFM := Lib.hid (ownE_form ho)
    obtain ⟨p, m, c, hv⟩ : ∃ p m c, v = .slice p m c := by
      rcases HFM.out with ⟨_, hv⟩ | ⟨g, cap, hv, _⟩
      · exact ⟨_, _, _, hv⟩
      · exact ⟨_, _, _, hv⟩
    subst hv
    clear hput hb ho hx s1 s2 s3
    gi_wp2
    refine ⟨by simp, .inl ⟨_, _, rfl, run_takeDeferred hK, ?_⟩⟩
    refine ⟨_, results_tmp rfl _ _ _, ?_⟩
    exact ⟨.slice p m c, ss, rfl, HS.out.1, HS.out.2.1, HS.out.2.2, HP.out⟩
set_option maxRecDepth 100000 in
theorem collect_any {bm b n : Nat} {f : Edg → Int} (w : World) (hbx : w.heap[bm]? = some (.cells #[.map (some b)] 51)) (hm : ME w b n f) (hn : n ≤ 1000000) :
    Calls Try.prog 24 #[.func (.func 41) #[] #[.pointer (some ⟨bm, 0, none⟩)]] w (ClP f n w) := by
  have HA := Lib.hid (appendSeq_any w hbx hm hn)
  clear hbx hm hn
  go_enter Try.func24, Try.ntmps24
  go_wp2_with fail
  refine HA.out.mono ?_
  rintro e w2 ⟨v, ss, rfl, h1, h2, h3, h4, h5⟩
  have HP : Hid (ClP f n w (.returned v) w2) := Lib.hid ⟨v, ss, rfl, h1, h2, h3, h4, h5⟩
  clear HA h1 h2 h3 h4 h5
  go_wp2
  go_ret
  exact HP.out
theorem keys_any (mb : Option Nat) (w : World) : Calls Try.prog 25 #[.map mb] w fun e w' => e = .returned (.func (.func 41) #[] #[.pointer (some ⟨w.heap.size, 0, none⟩)]) ∧ w' = w.alloc (.cells #[.map mb] 51) := by
  go_enter Try.func25, Try.ntmps25
  go_wp2
  go_ret
  exact ⟨rfl, rfl⟩
end Go.Proofs.Ytfdaekppheabeaa.Dg
