/-
  Contracts of small functions, several texts laid into one. Not a statement of the seat.
-/
import Derived.Test.YtmgkpabagpgilaaHead20
import Derived.Test.YtmgkpabagpgilaaHead17
import Derived.Test.YtmgkpabagpgilaaHead16
import Derived.Test.YtmgkpabagpgilaaMpE
import Derived.Test.YtmgkpabagpgilaaDgRd
import Derived.Test.YtmgkpabagpgilaaHead26
import Derived.Test.YtmgkpabagpgilaaHead14
import Derived.Test.YtmgkpabagpgilaaHead13
import Derived.Test.YtmgkpabagpgilaaHead18
import Derived.Test.YtmgkpabagpgilaaHead4
import Derived.Test.YtmgkpabagpgilaaHead24
namespace Go.Proofs.Ytmgkpabagpgilaa.Dg
open Go.ChangeShapes Go.WideShapes Go.ChangeAt Go.RowKit Go.Shelf Base F Tx Hi
attribute [local go_sem] Oper.semAt_some
open Pk (OwnE)
theorem ownE_form {B : Nat} {w : World} {v : Value} {zs : List Pk.E} (h : OwnE B w v zs) : (zs = [] ∧ v = .slice none 0 0) ∨ ∃ g cap, v = .slice (some ⟨g, 0, none⟩) zs.length cap ∧ B ≤ g ∧ g < w.heap.size ∧ zs.length ≤ cap := by
  rcases h.2 with ⟨hv, h0⟩ | ⟨g, cap, cur, hv, hB, hg, hc, _⟩
  · exact .inl ⟨List.length_eq_zero_iff.1 h0, hv⟩
  · exact .inr ⟨g, cap, hv, hB, heap_lt hg, hc⟩
theorem ownE_same {B : Nat} {w w' : World} {v : Value} {zs : List Pk.E} (h : OwnE B w v zs) (hb : ∀ g, v.ownBlock = some g → w'.heap[g]? = w.heap[g]?) : OwnE B w' v zs := by
  obtain ⟨h1, h2⟩ := h
  refine ⟨h1, ?_⟩
  rcases h2 with h2 | ⟨g, cap, cur, hv, hB, hg, h3⟩
  · exact .inl h2
  · exact .inr ⟨g, cap, cur, hv, hB, (hb g (by rw [hv]; rfl)).trans hg, h3⟩
theorem ownE_cells {B : Nat} {w : World} {v : Value} {zs : List Pk.E} (h : OwnE B w v zs) {g : Nat} (hg : v.ownBlock = some g) : B ≤ g ∧ g < w.heap.size ∧ ∃ o : Obj, w.heap[g]? = some o ∧ o.isCells = true := by
  rcases h.2 with ⟨hv, _⟩ | ⟨g', cap, cur, hv, hB, hg', h3⟩
  · rw [hv] at hg; cases hg
  · rw [hv] at hg
    injection hg with hg
    subst hg
    exact ⟨hB, heap_lt hg', _, hg', rfl⟩
theorem ownsRow_less {w : World} {base base' : Nat} {e : TypeId} {size n : Nat} {v : Value} {xs : List Value} (h : w.ownsRow base e size v n xs) (hb : base' ≤ base) : w.ownsRow base' e size v n xs := by
  refine ⟨h.1, ?_⟩
  rcases h.2 with hn | ⟨g, cap, cur, hv, hbg, rest⟩
  · exact .inl hn
  · exact .inr ⟨g, cap, cur, hv, Nat.le_trans hb hbg, rest⟩
/-- append within a round. -/
theorem appendIn_edge {F : Fence} {n : Nat} {ops : Array Oper} {rest : List Oper} {o : Oper} {a : Act} {Q : Exit → Act → World → Prop} (hgd : o.guard = none) (s x : Operand)
    (ho : o.op = .call { callee := .builtin .append, args := #[s, x], argTypes := #[62, 62] }) {B : Nat} {w : World} {v : Value} {zs : List Pk.E} (z : Pk.E)
    (hB : B ≤ w.heap.size) (hown : OwnE B w v zs) (hs : a.eval s = v) {g : Nat} (hx : a.eval x = .slice (some ⟨g, 0, none⟩) 1 1) (hg : g = w.heap.size) (hl : zs.length ≤ 1000000)
    (h : ∀ v' w', OwnE B w' v' (zs ++ [z]) → (w.alloc (.cells #[.int .i64 z.1, .int .i64 z.2.1, .int .i64 z.2.2.1, .int .i64 z.2.2.2] 33)).grownBy w' v.ownBlock → wpListIn F n Try.prog ops Q rest (a.put o.dst v') w') :
    wpListIn F n Try.prog ops Q (o :: rest) a (w.alloc (.cells #[.int .i64 z.1, .int .i64 z.2.1, .int .i64 z.2.2.1, .int .i64 z.2.2.2] 33)) := by
  subst hg
  obtain ⟨i0, hi, hz0, hz1, hz2⟩ := info_parts Pk.info
  refine wpListIn_append_own _ hgd s x 62 ho B 33 i0 (.agg #[.int .i64 0, .int .i64 0, .int .i64 0, .int .i64 0]) 4 32 Try.underlying62 hi hz0 hz1 hz2 rfl (by decide) v zs.length (zs.flatMap Pk.encE) hs (World.ownsRow.alloc hown _) ⟨w.heap.size, 0, none⟩ 1 1 (Pk.encE z) hx rfl ?_ ?_ (by simp only [maxLen]; omega) (by omega) (by simp; omega) ?_
  · intro t u hu
    match t, hu with
    | 0, hu => simp [Pk.encE] at hu; subst hu; simp [Addr.add]
    | 1, hu => simp [Pk.encE] at hu; subst hu; simp [Addr.add]
    | 2, hu => simp [Pk.encE] at hu; subst hu; simp [Addr.add]
    | 3, hu => simp [Pk.encE] at hu; subst hu; simp [Addr.add]
    | t + 4, hu => simp [Pk.encE] at hu
  · intro u hu
    simp [Pk.encE] at hu
    rcases hu with rfl | rfl | rfl | rfl <;> rfl
  · intro v' w' hown' hg _
    refine h v' w' ?_ hg
    unfold OwnE
    rw [List.length_append, List.flatMap_append]
    simpa using hown'
/-- What the loop of AppendSeq holds. -/
def CI (w : World) (ss : List Edg) (W : World) : Prop := Below w.heap.size w W ∧ ∃ v, W.heap[w.heap.size]? = some (.cells #[v] 62) ∧ OwnE (w.heap.size + 1) W v (ss.map toE)
theorem CI.step {w : World} {ss : List Edg} {W W' : World} {row : Option Nat} (h : CI w ss W) (hg : W.grownBy W' row) (hr : ∀ r, row = some r → w.heap.size + 1 ≤ r ∧ ∃ o : Obj, W.heap[r]? = some o ∧ o.isCells = false) : CI w ss W' := by
  obtain ⟨hb, v, hx, ho⟩ := h
  refine ⟨hb.grown hg hb.size (fun k e => by have := (hr k e).1; omega), v, (hg.block _ (heap_lt hx) (fun e => by have := (hr _ e.symm).1; omega)).trans hx, ownE_same ho fun g hgo => ?_⟩
  obtain ⟨q1, q2, o, q3, q4⟩ := ownE_cells ho hgo
  refine hg.block g q2 fun e => ?_
  obtain ⟨_, o2, r1, r2⟩ := hr g e.symm
  rw [q3] at r1
  injection r1 with r1
  rw [← r1, q4] at r2
  cases r2
theorem CI.put {w : World} {ss : List Edg} {W : World} {l : Nat} {o : Obj} (o' : Obj) (h : CI w ss W) (hl : W.heap[l]? = some o) (hc : o.isCells = false) (hw : w.heap.size + 1 ≤ l) : CI w ss (W.putObj l o') :=
  h.step (row := some l) ⟨rfl, rfl, rfl, by simp, fun k _ hk => World.putObj_heap_other (fun e => hk (by rw [e]))⟩ (fun r e => by cases e; exact ⟨hw, o, hl, hc⟩)
theorem set_box (W : World) (b : Nat) (v v' : Value) (T : TypeId) (h : W.heap[b]? = some (.cells #[v] T)) : (W.setCell ⟨b, 0, none⟩ v').heap[b]? = some (.cells #[v'] T) ∧ (∀ g, g ≠ b → (W.setCell ⟨b, 0, none⟩ v').heap[g]? = W.heap[g]?) ∧ (W.setCell ⟨b, 0, none⟩ v').heap.size = W.heap.size := by
  refine ⟨by simp [World.setCell, Array.getElem?_modify, h], fun g hg => by simp [World.setCell, Array.getElem?_modify, Ne.symm hg], by simp [World.setCell]⟩
theorem CI.round {w : World} {ss : List Edg} {x : Edg} {W w5 : World} {v v5 : Value} {ob : Obj} (hb : Below w.heap.size w W) (hx : W.heap[w.heap.size]? = some (.cells #[v] 62)) (ho : OwnE (w.heap.size + 1) W v (ss.map toE)) (h5 : OwnE (w.heap.size + 1) w5 v5 (ss.map toE ++ [toE x])) (hg : (W.alloc ob).grownBy w5 v.ownBlock) :
    RKc W (w5.setCell ⟨w.heap.size, 0, none⟩ v5) ∧ CI w (ss ++ [x]) (w5.setCell ⟨w.heap.size, 0, none⟩ v5) := by
  have hbo : ∀ g, v.ownBlock = some g → w.heap.size + 1 ≤ g ∧ g < W.heap.size := fun g hg => ⟨(ownE_cells ho hg).1, (ownE_cells ho hg).2.1⟩
  have old : ∀ g, g < W.heap.size → v.ownBlock ≠ some g → w5.heap[g]? = W.heap[g]? := fun g hlt hne => (hg.block g (by simp only [World.size_alloc]; omega) (fun e => hne e.symm)).trans (Below.heap_alloc _ _ _ hlt)
  have hx5 : w5.heap[w.heap.size]? = some (.cells #[v] 62) := (old _ (heap_lt hx) (fun e => by have := (hbo _ e).1; omega)).trans hx
  obtain ⟨s1, s2, s3⟩ := set_box w5 w.heap.size v v5 _ hx5
  have hsz : W.heap.size + 1 ≤ w5.heap.size := by have := hg.size; simpa only [World.size_alloc] using this
  have q1 : Below w.heap.size W (W.alloc ob) := (Below.refl _ _).alloc hb.size _
  have q2 : Below w.heap.size W w5 := q1.grown hg (by have := hb.size; simp only [World.size_alloc]; omega) (fun g e => by have := (hbo g e).1; omega)
  have hbw : Below w.heap.size W (w5.setCell ⟨w.heap.size, 0, none⟩ v5) := q2.setCell (p := ⟨w.heap.size, 0, none⟩) (Nat.le_refl _) _
  refine ⟨⟨by omega, fun g o2 hgo hc => ?_⟩, hb.trans hbw, v5, s1, ?_⟩
  · have n1 : g ≠ w.heap.size := fun e => by
      rw [e, hx] at hgo; injection hgo with hgo; rw [← hgo] at hc; cases hc
    have n2 : v.ownBlock ≠ some g := fun e => by
      obtain ⟨_, _, o3, h6, h7⟩ := ownE_cells ho e
      rw [hgo] at h6; injection h6 with h6; rw [h6, h7] at hc; cases hc
    exact (s2 g n1).trans ((old g (heap_lt hgo) n2).trans hgo)
  · rw [List.map_append]
    exact ownE_same h5 fun g hg' => s2 g (fun e => by have := (ownE_cells h5 hg').1; omega)
theorem ownE_snoc {B : Nat} {w : World} {v : Value} {xs : List Pk.E} {x : Pk.E} {k : Nat} (h : OwnE B w v (xs ++ [x])) (hk : xs.length = k) : ∃ p c, v = .slice p (k + 1) c := by
  rcases ownE_form h with ⟨hz, _⟩ | ⟨g, cap, hv, _⟩
  · simp at hz
  · exact ⟨_, _, by rw [hv, List.length_append, hk]; rfl⟩
/-- What Collect leaves. -/
def ClP (f : Edg → Int) (n : Nat) (w : World) (e : Ending) (w' : World) : Prop := ∃ (v : Value) (ss : List Edg), e = .returned v ∧ (ss.Nodup ∧ ss.length ≤ n) ∧ (∀ x ∈ ss, f x ≠ 0) ∧ (∀ x, Edg.ok x → f x ≠ 0 → x ∈ ss) ∧ OwnE w.heap.size w' v (ss.map toE) ∧ Below w.heap.size w w'
set_option maxRecDepth 100000 in
set_option maxHeartbeats 8000000 in
theorem appendSeq_any {bm b n : Nat} {f : Edg → Int} (w : World) (hbx : w.heap[bm]? = some (.cells #[.map (some b)] 52)) (hm : ME w b n f) (hn : n ≤ 1000000) :
    Calls Try.prog 38 #[.slice none 0 0, .func (.func 39) #[] #[.pointer (some ⟨bm, 0, none⟩)]] w (ClP f n w) := by
  refine (callsIn_wide (n := 5)).1 ?_
  refine callsIn_of_wp_marks Try.func38 rfl trivial ?_ rfl
  simp only [Try.ntmps38, List.size_toArray, List.length_cons, List.length_nil, Nat.reduceAdd, Nat.reduceSub, Array.replicate_succ, Array.replicate_zero, List.push_toArray, List.append_toArray, List.nil_append, List.cons_append]
  gi_wp2
  have hB0 : Below w.heap.size w (w.alloc (.cells #[.slice none 0 0] 62)) := (Below.refl _ _).alloc (Nat.le_refl _) _
  have hs0 : (w.alloc (.cells #[.slice none 0 0] 62)).heap.size = w.heap.size + 1 := by simp
  refine range_keys (w := w.alloc (.cells #[.slice none 0 0] 62)) (m := 5) (f := f) (bm := bm) (b := b) (n := n) ((hB0.block _ (heap_lt hbx)).trans hbx) (hm.below hB0) rfl rfl (CI w) (fun ss W W' row h hg hr => h.step hg (fun r e => by obtain ⟨q1, o, q2, q3⟩ := hr r e; exact ⟨by omega, o, q2, walk_cells q3⟩)) (fun ss W l o o' h h1 h2 h3 => h.put o' h1 h2 (by omega)) ⟨hB0, _, heap_alloc_at _ _ _ rfl, OwnE.nil _ _⟩
    (fun x q => { tmps := #[.slice none 0 0, .func (.func 39) #[] #[.pointer (some ⟨bm, 0, none⟩)], .pointer (some ⟨w.heap.size, 0, none⟩), undef, .slice none 0 0, .pointer (some ⟨q, 0, none⟩), .func (.func 39) #[] #[.pointer (some ⟨bm, 0, none⟩)], gE x, undef, undef, undef, undef, undef], defers := [] }) ?assign ?body ?done
  case assign =>
    intro l x W K hK
    obtain ⟨x0, x1, x2, x3⟩ := x
    unfold gE at hK ⊢
    dsimp only at hK ⊢
    gi_wp2
    exact hK
  case body =>
    rintro l x q W ss hlen ⟨hb, v, hx, ho⟩ hq
    have hlt : (ss.map toE).length = ss.length := by simp
    obtain ⟨k, hk⟩ : ∃ k, k = ss.length := ⟨_, rfl⟩
    obtain ⟨p, c, hv⟩ : ∃ p c, v = .slice p k c := by
      rcases ownE_form ho with ⟨hz, hv⟩ | ⟨g, cap, hv, _⟩
      · have : k = 0 := by rw [hk, ← hlt, hz]; rfl
        exact ⟨none, 0, by rw [hv, this]⟩
      · exact ⟨some ⟨g, 0, none⟩, cap, by rw [hv, hlt, hk]⟩
    subst hv
    obtain ⟨x0, x1, x2, x3⟩ := x
    have HRD := Lib.hid (fun (w5 : World) (v5 : Value) ob h5 hg => CI.round (w5 := w5) (v5 := v5) (ob := ob) (x := ⟨x0, x1, x2, x3⟩) hb hx ho h5 hg)
    have HO := Lib.hid (And.intro ho (And.intro (heap_lt hx) (show (ss.map toE).length ≤ 1000000 by omega)))
    have HLT : Hid ((ss.map toE).length = k) := Lib.hid (by omega)
    have HXW : Hid (∀ w5 : World, (W.alloc (.cells #[.int .i64 x0, .int .i64 x1, .int .i64 x2, .int .i64 x3] 33)).grownBy w5 (Value.slice p k c).ownBlock → w5.heap[w.heap.size]? = some (.cells #[.slice p k c] 62)) := Lib.hid fun w5 hg => (hg.block _ (by have := heap_lt hx; simp only [World.size_alloc]; omega) (fun e => by have := (ownE_cells ho e.symm).1; omega)).trans ((Below.heap_alloc _ _ _ (heap_lt hx)).trans hx)
    have cx : W.cell? ⟨w.heap.size, 0, none⟩ = some (.slice p k c) := by simp [World.cell?, hx]
    have cq : W.cell? ⟨q, 0, none⟩ = some (.int .i64 x0) ∧ W.cell? ⟨q, 1, none⟩ = some (.int .i64 x1) ∧ W.cell? ⟨q, 2, none⟩ = some (.int .i64 x2) ∧ W.cell? ⟨q, 3, none⟩ = some (.int .i64 x3) := by simp [World.cell?, hq]
    obtain ⟨c0, c1, c2, c3⟩ := cq
    have hwl := heap_lt hx
    have hql := heap_lt hq
    unfold gE
    dsimp only
    clear hb hx ho hq hlt hlen hk
    gi_wp2_with (gi_at_builtin; refine appendIn_edge rfl (.tmp 8) (.tmp 10) rfl (x0, x1, x2, x3) (B := w.heap.size + 1) (by have := HO.out.2.1; omega) HO.out.1 rfl rfl rfl HO.out.2.2 ?_; intro v5 w5 h5 hg5; have hx5 := HXW.out w5 hg5; obtain ⟨p5, c5, hv5⟩ := ownE_snoc h5 HLT.out; have HRR := Lib.hid (HRD.out w5 v5 _ h5 hg5); subst hv5; have cx5 : w5.cell? ⟨w.heap.size, 0, none⟩ = some (.slice p k c) := (by simp [World.cell?, hx5]); have fx5 : w5.frozen? ⟨w.heap.size, 0, none⟩ = false := (by simp [World.frozen?, hx5]); clear h5 hg5 hx5)
    exact HRR.out
  case done =>
    rintro D W ss hD s1 s2 s3 hci hK
    have hput := CI.put (.deferred none) hci hK rfl (by omega)
    obtain ⟨hb, v, hx, ho⟩ := hci
    have HP : Hid (OwnE w.heap.size (W.putObj D (.deferred none)) v (ss.map toE) ∧ Below w.heap.size w (W.putObj D (.deferred none))) := Lib.hid (by
      obtain ⟨k1, v', k2, k3⟩ := hput
      have e1 : w.heap.size ≠ D := fun e => by rw [e, hK] at hx; injection hx with hx; cases hx
      rw [World.putObj_heap_other e1, hx] at k2
      injection k2 with k2
      injection k2 with k2 _ _
      injection k2 with k2
      injection k2 with k2
      rw [← k2] at k3
      exact ⟨ownsRow_less k3 (by omega), k1⟩)
    have cx : W.cell? ⟨w.heap.size, 0, none⟩ = some v := by simp [World.cell?, hx]
    have HS := Lib.hid (And.intro s1 (And.intro s2 s3))
    have HFM := Lib.hid (ownE_form ho)
    obtain ⟨p, m, c, hv⟩ : ∃ p m c, v = .slice p m c := by
      rcases HFM.out with ⟨_, hv⟩ | ⟨g, cap, hv, _⟩
      · exact ⟨_, _, _, hv⟩
      · exact ⟨_, _, _, hv⟩
    subst hv
    clear hput hb ho hx s1 s2 s3
    gi_wp2
    refine ⟨by simp, .inl ⟨_, _, rfl, run_takeDeferred hK, ?_⟩⟩
    refine ⟨_, results_tmp rfl _ _ _, ?_⟩
    exact ⟨.slice p m c, ss, rfl, HS.out.1, HS.out.2.1, HS.out.2.2, HP.out⟩
set_option maxRecDepth 100000 in
theorem collect_any {bm b n : Nat} {f : Edg → Int} (w : World) (hbx : w.heap[bm]? = some (.cells #[.map (some b)] 52)) (hm : ME w b n f) (hn : n ≤ 1000000) :
    Calls Try.prog 22 #[.func (.func 39) #[] #[.pointer (some ⟨bm, 0, none⟩)]] w (ClP f n w) := by
  have HA := Lib.hid (appendSeq_any w hbx hm hn)
  clear hbx hm hn
  go_enter Try.func22, Try.ntmps22
  go_wp2_with fail
  refine HA.out.mono ?_
  rintro e w2 ⟨v, ss, rfl, h1, h2, h3, h4, h5⟩
  have HP : Hid (ClP f n w (.returned v) w2) := Lib.hid ⟨v, ss, rfl, h1, h2, h3, h4, h5⟩
  clear HA h1 h2 h3 h4 h5
  go_wp2
  go_ret
  exact HP.out
theorem keys_any (mb : Option Nat) (w : World) : Calls Try.prog 23 #[.map mb] w fun e w' => e = .returned (.func (.func 39) #[] #[.pointer (some ⟨w.heap.size, 0, none⟩)]) ∧ w' = w.alloc (.cells #[.map mb] 52) := by
  go_enter Try.func23, Try.ntmps23
  go_wp2
  go_ret
  exact ⟨rfl, rfl⟩
end Go.Proofs.Ytmgkpabagpgilaa.Dg
namespace Go.Proofs.Ytmgkpabagpgilaa.Dg
open Go.ChangeShapes Go.WideShapes Go.ChangeAt Go.RowKit Base F Tx Hi
/-- What a call that tells edges with their counts leaves. -/
def HvP (c : Edg → Nat) (n : Nat) (w : World) (e : Ending) (w' : World) : Prop := ∃ v l, e = .returned v ∧ Lists c l ∧ l.length ≤ n ∧ OwnHvy w.heap.size w' v l ∧ Aft w w'
theorem sortL_facts (l : List Pk.E) : Pk.Rises (Pk.sortL l) ∧ ∀ y, y ∈ Pk.sortL l ↔ y ∈ l := by
  obtain ⟨h1, h2⟩ := Pk.fold_put1 l [] (by simp)
  exact ⟨h1, fun y => by rw [show Pk.sortL l = l.foldl (fun acc e => Pk.put1 e acc) [] from rfl, h2]; simp⟩
theorem sorted_lists {c : Edg → Nat} {ss : List Edg} (h1 : ∀ x ∈ ss, ((c x : Nat) : Int) ≠ 0) (h2 : ∀ x, Edg.ok x → ((c x : Nat) : Int) ≠ 0 → x ∈ ss) (hok : ∀ e, c e ≠ 0 → Edg.ok e) : Lists c ((Pk.sortL (ss.map toE)).map (hvy c)) := by
  obtain ⟨r1, r2⟩ := sortL_facts (ss.map toE)
  refine ⟨_, r1, fun x => ?_, rfl⟩
  rw [r2, List.mem_map]
  constructor
  · rintro ⟨y, hy, rfl⟩
    have := h1 y hy
    rw [ofE_toE]
    omega
  · intro hx
    exact ⟨ofE x, h2 _ (hok _ hx) (by omega), toE_ofE x⟩
/-- On the way. -/
def LvW (c : Edg → Nat) (ks : List Pk.E) (B b n : Nat) (w w3 : World) (k : Nat) (v : Value) (wr : World) : Prop := OwnHvy B wr v ((ks.take k).map (hvy c)) ∧ Aft w3 wr ∧ Aft w wr ∧ ME wr b n (fun e => ((c e : Nat) : Int))
set_option maxRecDepth 100000 in
set_option maxHeartbeats 16000000 in
theorem listed_any {b n : Nat} {c : Edg → Nat} (w : World) (hm : ME w b n (fun e => ((c e : Nat) : Int))) (hn : n ≤ 1000000) (hok : ∀ e, c e ≠ 0 → Edg.ok e) : Calls Try.prog 12 #[.map (some b)] w (HvP c n w) := by
  have HK := Lib.hid (keys_any (some b) w)
  obtain ⟨w1, hw1⟩ : ∃ w1, w1 = w.alloc (.cells #[.map (some b)] 52) := ⟨_, rfl⟩
  have HA1 : Hid (Aft w w1 ∧ w.heap.size ≤ w1.heap.size) := Lib.hid (by rw [hw1]; exact ⟨Aft.one _, by simp⟩)
  have HC := Lib.hid (collect_any (bm := w.heap.size) w1 (by rw [hw1]; exact heap_alloc_at _ _ _ rfl) (hm.below HA1.out.1) hn)
  have HM := Lib.hid hm
  have HBL : Hid (b < w.heap.size) := Lib.hid hm.lt
  have HOK := Lib.hid hok
  have HN := Lib.hid hn
  have HE : Hid (∀ u l W, Lists c l → l.length ≤ n → OwnHvy w.heap.size W u l → Aft w W → HvP c n w (.returned u) W) := Lib.hid fun u l W h1 h2 h3 h4 => ⟨u, l, rfl, h1, h2, h3, h4⟩
  generalize HvP c n w = Post at HE ⊢
  clear hm hok hn
  go_enter Try.func12, Try.ntmps12
  go_wp2_with fail
  refine HK.out.mono ?_
  rintro e wk ⟨rfl, hwk⟩
  rw [← hw1] at hwk
  subst hwk
  clear hw1 HK
  go_wp2_with fail
  refine HC.out.mono ?_
  rintro e w2 ⟨v2, ss, rfl, ⟨_, hsl⟩, hs1, hs2, ho2, hb2⟩
  have HA2 : Hid (Aft w w2) := Lib.hid (HA1.out.1.trans hb2)
  have HL : Hid (Lists c ((Pk.sortL (ss.map toE)).map (hvy c))) := Lib.hid (sorted_lists hs1 hs2 HOK.out)
  have hks := Pk.sortL_len (ss.map toE)
  rw [List.length_map] at hks
  have HS := Lib.hid (Pk.sortE_any w2 (ho2.eds (by rw [List.length_map]; have := HN.out; omega)) (by rw [List.length_map]; have := HN.out; omega))
  generalize Pk.sortL (ss.map toE) = ks at HL HS hks
  have HKN : Hid (ks.length ≤ n) := Lib.hid (by omega)
  clear hsl hs1 hs2 ho2 hb2 hks HC
  go_wp2_with fail
  refine HS.out.mono ?_
  rintro e w3 ⟨⟨v3, rfl, hv3⟩, hb3⟩
  obtain ⟨p, cc, rfl, hl64, hat⟩ := hv3.open_
  have HAT := Lib.hid hat
  have HA3 : Hid (Aft w w3) := Lib.hid (HA2.out.trans hb3)
  have HW0 : Hid (LvW c ks w3.heap.size b n w w3 0 (.slice none 0 0) w3) := Lib.hid ⟨OwnHvy.nil _ _, Aft.refl _, HA3.out, HM.out.below HA3.out⟩
  obtain ⟨kn, hkn⟩ : ∃ m, m = ks.length := ⟨_, rfl⟩
  have hk64 : kn ≤ 1000000 := by have := HKN.out; have := HN.out; omega
  have HKL := Lib.hid hkn
  rw [← hkn] at hl64 HAT ⊢
  clear hv3 hat hb3 HS HA2 HA1 HM hkn hl64
  go_wp2_with fail
  go_loopw [3, 11] (fun s3 s11 wr => ∃ k : Nat, s11 = .int .i64 (k : Int) ∧ k ≤ kn ∧ ∃ v, v = s3 ∧ Hid (LvW c ks w3.heap.size b n w w3 k v wr)) (fun _ s11 _ => kn - (intOf s11).toNat)
  case atStart => exact ⟨0, rfl, Nat.zero_le _, _, rfl, HW0⟩
  case round =>
    clear HW0
    obtain ⟨k, rfl, hk, v, hv, HW⟩ := hrel
    subst hv
    obtain ⟨wA, hwA⟩ : ∃ wA, wA = wr := ⟨_, rfl⟩
    subst hwA
    by_cases hlt : k < kn
    · obtain ⟨g, o, rfl, hg, c0, c1, c2, c3⟩ := HAT.out k hlt
      have ha := HW.out.2.1
      have c0 := ha.cell hg c0
      have c1 := ha.cell hg c1
      have c2 := ha.cell hg c2
      have c3 := ha.cell hg c3
      have hg := Nat.lt_of_lt_of_le hg ha.size
      have hkI : (k : Int) < (kn : Int) := by omega
      have HT : Hid ((ks.take (k + 1)).map (hvy c) = (ks.take k).map (hvy c) ++ [hvy c (ks.getD k Pk.zE)]) := Lib.hid (by rw [Tx.take_snoc ks Pk.zE k (by have := HKL.out; omega), List.map_append]; rfl)
      have HOKK : Hid (Edg.ok (ofE (ks.getD k Pk.zE))) := Lib.hid (by
        obtain ⟨ks', q1, q2, q3⟩ := HL.out
        have hm : hvy c (ks.getD k Pk.zE) ∈ ks.map (hvy c) := List.mem_map.2 ⟨_, getD_mem' _ (by have := HKL.out; omega), rfl⟩
        exact HOK.out _ (HL.out.mem hm).2)
      generalize ks.getD k Pk.zE = x at c0 c1 c2 c3 HT HOKK
      obtain ⟨x0, x1, x2, x3⟩ := x
      dsimp only at c0 c1 c2 c3
      obtain ⟨X, hX⟩ : ∃ X, X = wA.alloc (.cells #[.int .i64 x0, .int .i64 x1, .int .i64 x2, .int .i64 x3] 33) := ⟨_, rfl⟩
      have hxb : X.heap[wA.heap.size]? = some (.cells #[.int .i64 x0, .int .i64 x1, .int .i64 x2, .int .i64 x3] 33) := by rw [hX]; exact heap_alloc_at _ _ _ rfl
      have HAX : Hid (Aft wA X) := Lib.hid (by rw [hX]; exact Aft.one _)
      obtain ⟨Y, hY⟩ : ∃ Y, Y = X.drew := ⟨_, rfl⟩
      have HAY : Hid (Aft wA Y) := Lib.hid (by rw [hY]; exact HAX.out.drew 1)
      have HXY : Hid (Y.heap[wA.heap.size]? = some (.cells #[.int .i64 x0, .int .i64 x1, .int .i64 x2, .int .i64 x3] 33)) := Lib.hid (by rw [hY]; exact hxb)
      have HCX : Hid (∀ Z, Aft Y Z → Z.cell? ⟨wA.heap.size, 0, none⟩ = some (.int .i64 x0) ∧ Z.cell? ⟨wA.heap.size, 1, none⟩ = some (.int .i64 x1) ∧ Z.cell? ⟨wA.heap.size, 2, none⟩ = some (.int .i64 x2) ∧ Z.cell? ⟨wA.heap.size, 3, none⟩ = some (.int .i64 x3)) := Lib.hid fun Z hZ => by
        have := (hZ.block _ (heap_lt HXY.out)).trans HXY.out
        simp [World.cell?, this]
      have HLK : Hid ((Instr.lookup 52 (.map (some b)) (.agg #[.int .i64 x0, .int .i64 x1, .int .i64 x2, .int .i64 x3]) false).run Try.prog Y = .ok (.int .i64 ((c ⟨x0, x1, x2, x3⟩ : Nat) : Int)) Y) := Lib.hid (me_look (HW.out.2.2.2.below HAY.out) HOKK.out)
      have HT : Hid ((ks.take (k + 1)).map (hvy c) = (ks.take k).map (hvy c) ++ [⟨x0, x1, x2, x3, ((c ⟨x0, x1, x2, x3⟩ : Nat) : Int)⟩]) := HT
      have HLEN : Hid (((ks.take k).map (hvy c)).length ≤ 999999 ∧ ((ks.take k).map (hvy c)).length = k) := Lib.hid (by rw [List.length_map, List.length_take]; have := HKL.out; omega)
      generalize ((c ⟨x0, x1, x2, x3⟩ : Nat) : Int) = cv at HLK HT
      have HO : Hid (OwnHvy w3.heap.size Y v ((ks.take k).map (hvy c)) ∧ w3.heap.size ≤ Y.heap.size) := Lib.hid ⟨HW.out.1.below HAY.out, Nat.le_trans HW.out.2.1.size HAY.out.size⟩
      have HAW : Hid (Aft w3 Y ∧ Aft w Y ∧ ME Y b n (fun e => ((c e : Nat) : Int))) := Lib.hid ⟨HW.out.2.1.trans HAY.out, HW.out.2.2.1.trans HAY.out, HW.out.2.2.2.below HAY.out⟩
      obtain ⟨q0, q1, q2, q3⟩ := HCX.out Y (Aft.refl _)
      have HWB : Hid (∀ g, v.ownBlock = some g → w3.heap.size ≤ g ∧ g < wA.heap.size) := Lib.hid fun g hg => World.ownsRow.lt HW.out.1 g hg
      have HFIN : Hid (∀ Z, Aft Y Z → ∀ v5 w5, OwnHvy w3.heap.size w5 v5 ((ks.take k).map (hvy c) ++ [⟨x0, x1, x2, x3, cv⟩]) → Z.grownBy w5 v.ownBlock → LvW c ks w3.heap.size b n w w3 (k + 1) v5 w5 ∧ (w5.cell? ⟨wA.heap.size, 0, none⟩ = some (.int .i64 x0) ∧ w5.cell? ⟨wA.heap.size, 1, none⟩ = some (.int .i64 x1) ∧ w5.cell? ⟨wA.heap.size, 2, none⟩ = some (.int .i64 x2) ∧ w5.cell? ⟨wA.heap.size, 3, none⟩ = some (.int .i64 x3))) := Lib.hid fun Z hZ v5 w5 h5 hg5 => by
        have hnb : ∀ g, some g = v.ownBlock → w3.heap.size ≤ g ∧ g < wA.heap.size := fun g hg => HWB.out g hg.symm
        have hbx : w5.heap[wA.heap.size]? = some (.cells #[.int .i64 x0, .int .i64 x1, .int .i64 x2, .int .i64 x3] 33) := (hg5.block _ (Nat.lt_of_lt_of_le (heap_lt HXY.out) hZ.size) (fun e => by have := (hnb _ e).2; omega)).trans ((hZ.block _ (heap_lt HXY.out)).trans HXY.out)
        refine ⟨⟨by rw [HT.out]; exact h5, ?_, ?_, ?_⟩, by simp [World.cell?, hbx]⟩
        · exact (HAW.out.1.trans hZ).grown hg5 (Nat.le_trans HAW.out.1.size hZ.size) (fun g e => (HWB.out g e).1)
        · exact (HAW.out.2.1.trans hZ).grown hg5 (Nat.le_trans HAW.out.2.1.size hZ.size) (fun g e => Nat.le_trans HA3.out.size (HWB.out g e).1)
        · exact (HAW.out.2.2.below hZ).kept hg5 (fun e => by have h1 := (HWB.out b e.symm).1; have h2 := HBL.out; have h3 := HA3.out.size; omega)
      clear HW
      go_upto_region 5 with fail
      rw [← hX]
      clear hX c0 c1 c2 c3
      refine wp_region_held_drew (S := fun Z => Z.cell? ⟨wA.heap.size, 0, none⟩ = some (.int .i64 x0) ∧ Z.cell? ⟨wA.heap.size, 1, none⟩ = some (.int .i64 x1) ∧ Z.cell? ⟨wA.heap.size, 2, none⟩ = some (.int .i64 x2) ∧ Z.cell? ⟨wA.heap.size, 3, none⟩ = some (.int .i64 x3)) (by kernel_rfl) (hY ▸ ⟨q0, q1, q2, q3⟩) (fun hHeld0 => ?_)
      rw [← hY] at hHeld0 ⊢
      clear hY
      refine wpAnyH_take (i := 0) (v := ?_) rfl (by kernel_rfl) (by kernel_rfl) (by kernel_rfl) (fun _ _ _ h => h) (Or.inl ⟨by rfl, ?yr1⟩) (by assumption) ?qr1
      case yr1 => (intro wz hSw; (try dsimp only at hSw); go_simp <;> with_reducible rfl)
      try simp only [Act.put, List.getElem_toArray, List.getElem_cons_zero, List.setIfInBounds_toArray, List.set_cons_zero, List.set_cons_succ]
      refine wpAnyH_take (i := 1) (v := ?_) rfl (by kernel_rfl) (by kernel_rfl) (by kernel_rfl) (fun _ _ _ h => h) (Or.inl ⟨by rfl, ?yr2⟩) (by assumption) ?qr2
      case yr2 => (intro wz hSw; (try dsimp only at hSw); go_simp <;> with_reducible rfl)
      try simp only [Act.put, List.getElem_toArray, List.getElem_cons_zero, List.getElem_cons_succ, List.setIfInBounds_toArray, List.set_cons_zero, List.set_cons_succ]
      refine wpAnyH_take (i := 2) (v := ?_) rfl (by kernel_rfl) (by kernel_rfl) (by kernel_rfl) (fun _ _ _ h => h) (Or.inl ⟨by rfl, ?yr3⟩) (by assumption) ?qr3
      case yr3 => (intro wz hSw; (try dsimp only at hSw); go_simp <;> with_reducible rfl)
      try simp only [Act.put, List.getElem_toArray, List.getElem_cons_zero, List.getElem_cons_succ, List.setIfInBounds_toArray, List.set_cons_zero, List.set_cons_succ]
      refine wpAnyH_take (i := 3) (v := ?_) rfl (by kernel_rfl) (by kernel_rfl) (by kernel_rfl) (fun _ _ _ h => h) (Or.inl ⟨by rfl, ?yr4⟩) (by assumption) ?qr4
      case yr4 => (intro wz hSw; (try dsimp only at hSw); go_simp <;> with_reducible rfl)
      try simp only [Act.put, List.getElem_toArray, List.getElem_cons_zero, List.getElem_cons_succ, List.setIfInBounds_toArray, List.set_cons_zero, List.set_cons_succ]
      refine wpAnyH_ready (rs := [4]) (by kernel_rfl) (by simp) ?_
      refine AllReadyH.cons rfl (fun K hK => ?_) AllReadyH.nil
      refine step_lookup rfl (.tmp 17) (.tmp 18) rfl (b := b) (key := .agg #[.int .i64 x0, .int .i64 x1, .int .i64 x2, .int .i64 x3]) (by simp [Act.eval]) (by simp [Act.eval]) HLK.out ?_
      refine hK.out _ _ (by assumption) (fun hHeld5 => ?_)
      clear hK K
      try simp only [Act.put, List.getElem_toArray, List.getElem_cons_zero, List.getElem_cons_succ, List.setIfInBounds_toArray, List.set_cons_zero, List.set_cons_succ]
      refine wpAnyH_take (i := 5) (v := ?_) rfl (by kernel_rfl) (by kernel_rfl) (by kernel_rfl) (fun _ _ _ h => h) (Or.inl ⟨by rfl, ?yr6⟩) (by assumption) ?qr6
      case yr6 => (intro wz hSw; (try dsimp only at hSw); go_simp <;> with_reducible rfl)
      try simp only [Act.put, List.getElem_toArray, List.getElem_cons_zero, List.getElem_cons_succ, List.setIfInBounds_toArray, List.set_cons_zero, List.set_cons_succ]
      refine wpAnyH_ready (rs := [6]) (by kernel_rfl) (by simp) ?_
      refine AllReadyH.cons rfl (fun K hK => ?_) AllReadyH.nil
      go_simp
      obtain ⟨Z, hZ⟩ : ∃ Z, Z = Y.alloc (.cells #[.int .i64 x0, .int .i64 x1, .int .i64 x2, .int .i64 x3, .int .i64 cv] 35) := ⟨_, rfl⟩
      have HLI : Hid (Hvys 0 Z (.slice (some ⟨Y.heap.size, 0, none⟩) 1 1) [⟨x0, x1, x2, x3, cv⟩] ∧ Aft Y Z) := Lib.hid (by rw [hZ]; exact ⟨hvy_lit ⟨x0, x1, x2, x3, cv⟩ Y, Aft.one _⟩)
      rw [← hZ]
      clear hZ
      refine hK.out _ _ (HCX.out _ HLI.out.2) (fun hHeld7 => ?_)
      clear hK K
      try simp only [Act.put, List.getElem_toArray, List.getElem_cons_zero, List.getElem_cons_succ, List.setIfInBounds_toArray, List.set_cons_zero, List.set_cons_succ]
      refine wpAnyH_ready (rs := [7]) (by kernel_rfl) (by simp) ?_
      refine AllReadyH.cons rfl (fun K hK => ?_) AllReadyH.nil
      refine step_append_hvys rfl (.tmp 15) (.tmp 21) rfl (B := w3.heap.size) (Nat.le_trans HO.out.2 HLI.out.2.size) (HO.out.1.below HLI.out.2) (by simp [Act.eval]) HLI.out.1 (by simp [Act.eval]) (by have := HLEN.out.1; simp only [List.length_cons, List.length_nil]; omega) ?_
      intro v5 w5 h5 hg5 _
      have HQ := Lib.hid (HFIN.out Z HLI.out.2 v5 w5 h5 hg5)
      clear h5 hg5
      refine hK.out _ _ (HQ.out.2) (fun hHeld8 => ?_)
      clear hK K
      try simp only [Act.put, List.getElem_toArray, List.getElem_cons_zero, List.getElem_cons_succ, List.setIfInBounds_toArray, List.set_cons_zero, List.set_cons_succ]
      refine wpAnyH_take (i := 8) (v := ?_) rfl (by kernel_rfl) (by kernel_rfl) (by kernel_rfl) (fun _ _ _ h => h) (Or.inl ⟨by rfl, ?yr9⟩) (by assumption) ?qr9
      case yr9 => (intro wz hSw; (try dsimp only at hSw); go_simp <;> with_reducible rfl)
      try simp only [Act.put, List.getElem_toArray, List.getElem_cons_zero, List.getElem_cons_succ, List.setIfInBounds_toArray, List.set_cons_zero, List.set_cons_succ]
      refine wpAnyH_done (by kernel_rfl) ?_ _
      go_wp2_with fail
      go_roundw
      case rel => exact ⟨k + 1, by go_num, by omega, _, rfl, Lib.hid HQ.out.1⟩
      case measure => simp [intOf]; omega
    · have hke : k = kn := by omega
      have HF : Hid (Post (.returned v) wA) := Lib.hid (by
        obtain ⟨h1, _, h3, _⟩ := HW.out
        rw [hke, HKL.out, List.take_length] at h1
        exact HE.out v _ wA HL.out (by rw [List.length_map]; exact HKN.out) (ownsRow_less h1 HA3.out.size) h3)
      clear HW hke
      go_wp2_with fail
      exact HF.out
end Go.Proofs.Ytmgkpabagpgilaa.Dg
namespace Go.Proofs.Ytmgkpabagpgilaa.Dg
open Go.ChangeShapes Go.WideShapes Go.ChangeAt Go.RowKit Base F Tx Hi Off
theorem findT_id : ∀ {xs : List Txn} {id : Int} {t : Txn}, findT xs id = some t → t.id = id
  | x :: l, id, t, h => by
    unfold findT at h
    split at h
    · rename_i he
      injection h with h
      rw [← h]; exact he
    · exact findT_id h
/-- An edge with a reason has numbers of 64 bits. -/
theorem cnt_ok {h : Hist} (hs : HistSm h) {P : Int → Bool} {e : Edg} (hc : cntE h P e ≠ 0) : Edg.ok e := by
  obtain ⟨a, b, ha, hb, _, _, _⟩ := cnt_ends hc
  obtain ⟨t, ht, o, ho, hk⟩ := cnt_keyop hc
  have h1 : i64 e.f := by rw [← findT_id ha]; exact (hs.txs a (findT_mem ha)).1
  have h2 : i64 e.t := by rw [← findT_id hb]; exact (hs.txs b (findT_mem hb)).1
  have h3 : i64 e.k := by
    rw [← hk]
    have := (hs.txs t ht).2 o ho
    unfold Opr.ok at this
    unfold i64
    omega
  have h4 : i64 e.kd := by
    obtain ⟨_, h5⟩ := cnt_some hc
    unfold i64
    rcases h5 with ⟨h5, _⟩ | ⟨t, _, o, _, _, _, ⟨_, rfl⟩ | ⟨z, _, _, rfl⟩⟩
    · omega
    · simp [wrE]
    · simp [rwE]
  exact ⟨h1, h2, h4, h3⟩
def NBd (h : Hist) (n : Nat) : Prop := n ≤ 1000 * h.ords.length + 200 * h.txs.length
theorem HvP.mono {c : Edg → Nat} {n m : Nat} {w w2 : World} {e : Ending} {w' : World} (h : HvP c n w2 e w') (hn : n ≤ m) (ha : Aft w w2) : HvP c m w e w' := by
  obtain ⟨v, l, he, h1, h2, h3, h4⟩ := h
  exact ⟨v, l, he, h1, by omega, ownsRow_less h3 ha.size, ha.trans h4⟩
theorem hvP_aft {c : Edg → Nat} {n : Nat} {w : World} {e : Ending} {w' : World} (h : HvP c n w e w') : Aft w w' := by
  obtain ⟨v, l, he, h1, h2, h3, h4⟩ := h
  exact h4
theorem hvP_ret {c : Edg → Nat} {n : Nat} {w : World} {e : Ending} {w' : World} (h : HvP c n w e w') : ∃ v, e = .returned v ∧ HvP c n w (.returned v) w' := by
  obtain ⟨v, l, he, h1⟩ := h
  exact ⟨v, he, v, l, rfl, h1⟩
theorem all_any (k : Int) (w : World) : Calls Try.prog 14 #[.int .i64 k] w (BoolNew true w) := by
  go_enter Try.func14, Try.ntmps14
  go_wp2
  go_ret
  exact ⟨rfl, Aft.refl _⟩
set_option maxRecDepth 100000 in
set_option maxHeartbeats 4000000 in
theorem edges_any {v u : Value} {h : Hist} (w : World) (hh : HistV w v u h) (hs : HistSm h) (ho : h.ords.length ≤ 500) : Calls Try.prog 9 #[.agg #[v, u]] w (HvP (cntE h fun _ => true) 1000000 w) := by
  obtain ⟨p, c, hv, _⟩ := hh.1.form
  obtain ⟨q, d, hu, _⟩ := hh.2.form
  subst hv hu
  obtain ⟨X, hX⟩ : ∃ X, X = w.alloc (.cells #[.slice p h.txs.length c, .slice q h.ords.length d] 25) := ⟨_, rfl⟩
  have HA : Hid (Aft w X) := Lib.hid (by rw [hX]; exact Aft.one _)
  have e0 : X.heap[w.heap.size]? = some (.cells #[.slice p h.txs.length c, .slice q h.ords.length d] 25) := by rw [hX]; exact heap_alloc_at _ _ _ rfl
  have c0 : X.cell? ⟨w.heap.size, 0, none⟩ = some (.slice p h.txs.length c) := by simp [World.cell?, e0]
  have c1 : X.cell? ⟨w.heap.size, 1, none⟩ = some (.slice q h.ords.length d) := by simp [World.cell?, e0]
  have hl := heap_lt e0
  have HC := Lib.hid (count_any X (hh.below HA.out) hs (fun _ => true) (fv := .func (.func 14) #[] #[]) rfl (enters_of Try.func14 (by kernel_rfl) rfl) (fun Y k _ => all_any k Y))
  have HL : Hid (∀ W b n, NBd h n → ME W b n (fun e => ((cntE h (fun _ => true) e : Nat) : Int)) → Calls Try.prog 12 #[.map (some b)] W (HvP (cntE h fun _ => true) n W)) := Lib.hid fun W b n hn hm => listed_any W hm (by have := hs.num; unfold NBd at hn; omega) (fun e he => cnt_ok hs he)
  have HE : Hid (∀ W n e W', NBd h n → Aft X W → HvP (cntE h fun _ => true) n W e W' → HvP (cntE h fun _ => true) 1000000 w e W') := Lib.hid fun W n e W' hn hW hp => hp.mono (by have := hs.num; unfold NBd at hn; omega) (HA.out.trans hW)
  generalize HvP (cntE h fun _ => true) 1000000 w = Post at HE ⊢
  generalize h.txs.length = n1 at *
  generalize h.ords.length = n2 at *
  clear hh hs ho e0
  go_enter Try.func9, Try.ntmps9
  go_wp2_with fail
  rw [← hX]
  clear hX
  go_wp2_with fail
  refine HC.out.mono ?_
  rintro e w2 ⟨b, n, rfl, hn, hm, ha⟩
  have HL2 := Lib.hid (HL.out w2 b n hn hm)
  have HE2 := Lib.hid (HE.out w2 n)
  have HN := Lib.hid (And.intro hn ha)
  clear hn hm ha HL HC HE c0 c1 hl
  go_wp2_with fail
  refine HL2.out.mono ?_
  rintro e w3 hp
  obtain ⟨r, he, hp⟩ := hvP_ret hp
  subst he
  have HP := Lib.hid (HE2.out _ _ HN.out.1 HN.out.2 hp)
  clear hp HL2 HE2
  go_wp2_with fail
  exact HP.out
end Go.Proofs.Ytmgkpabagpgilaa.Dg
namespace Go.Proofs.Ytmgkpabagpgilaa.Dg
open Go.ChangeShapes Go.WideShapes Go.ChangeAt Go.RowKit Base F Tx Hi Off
def SH2 : Hist := ⟨SH.txs, []⟩
theorem SH2_sm : HistSm SH2 := ⟨SH_sm.txs, (fun o ho => by cases ho), SH_sm.num, SH_sm.ops, (fun o ho => by cases ho)⟩
def L3 : List Hvy := [⟨1, 2, 1, 5, 1⟩, ⟨1, 2, 2, 5, 1⟩, ⟨3, 1, 3, 5, 2⟩]
def E3 : List Pk.E := [(1, 2, 1, 5), (1, 2, 2, 5), (3, 1, 3, 5)]
theorem nx_SH {P : Int → Bool} (hP : P 5 = true) {a k z : Int} (h : nxH P SH.ords (a, k) = some z) : (a = 1 ∧ k = 5 ∧ z = 2) ∨ (a = 0 ∧ k = 5 ∧ z = 1) := by
  have h1 : nxH P SH.ords = setF (setF (fun _ => none) (0, 5) 1) (1, 5) 2 := by
    unfold nxH SH
    simp only [List.foldl_cons, List.foldl_nil]
    unfold nxO
    rw [if_pos hP]
    rfl
  rw [h1] at h
  unfold setF at h
  split at h
  · rename_i e
    injection e with e1 e2
    injection h with h
    exact .inl ⟨e1, e2, h.symm⟩
  · split at h
    · rename_i e
      injection e with e1 e2
      injection h with h
      exact .inr ⟨e1, e2, h.symm⟩
    · cases h
theorem SH_cnt {e : Edg} (h : cntE SH (fun _ => true) e ≠ 0) : toE e ∈ E3 := by
  obtain ⟨hr, h1⟩ := cnt_some h
  unfold E3 toE
  rcases h1 with ⟨hk, h0, hn⟩ | ⟨t, ht, o, ho, hrd, hok, h2⟩
  · rcases nx_SH rfl hn with ⟨a, b, c⟩ | ⟨a, _, _⟩
    · rw [hk, a, b, c]; simp
    · exact absurd a h0
  · obtain ⟨_, hr1, _, _, _⟩ := rdC_iff.1 hrd
    simp only [SH, List.mem_cons, List.not_mem_nil, or_false] at ht
    rcases ht with rfl | rfl | rfl
    · simp only [List.mem_cons, List.not_mem_nil, or_false] at ho
      subst ho
      cases hr1
    · simp only [List.mem_cons, List.not_mem_nil, or_false] at ho
      rcases ho with rfl | rfl
      · cases hr1
      · rcases h2 with ⟨_, rfl⟩ | ⟨z, hz, hzi, rfl⟩
        · simp [wrE]
        · rcases nx_SH rfl hz with ⟨_, _, c⟩ | ⟨a, _, _⟩
          · exact absurd c hzi
          · exact absurd a (by decide)
    · simp only [List.mem_cons, List.not_mem_nil, or_false, or_self] at ho
      subst ho
      rcases h2 with ⟨h0, _⟩ | ⟨z, hz, hzi, rfl⟩
      · exact absurd rfl h0
      · rcases nx_SH rfl hz with ⟨a, _, _⟩ | ⟨_, _, c⟩
        · exact absurd a (by decide)
        · subst c
          simp [rwE]
theorem SH_lists : Lists (cntE SH fun _ => true) L3 := by
  refine ⟨E3, by decide, fun x => ⟨fun hx => ?_, fun hx => SH_cnt hx⟩, ?_⟩
  · unfold E3 at hx
    simp only [List.mem_cons, List.not_mem_nil, or_false] at hx
    rcases hx with rfl | rfl | rfl <;> decide +kernel
  · kernel_rfl
theorem hist2 {W : World} {v u : Value} (h : HistV W v u SH) : HistV W v (.slice none 0 0) SH2 := ⟨h.1, ⟨⟨none, 0, rfl, Nat.le_refl _, fun _ => rfl, by simp [SH2]⟩, fun k hk => absurd hk (by simp [SH2])⟩⟩
theorem ret_list {c : Edg → Nat} {n : Nat} {l : List Hvy} {f : FuncId} {args : Array Value} {w : World} (h : Calls Try.prog f args w (HvP c n w)) (hl : Lists c l) (hn : n ≤ 1000000) : Calls Try.prog f args w (fun e w' => ∃ v, e = .returned v ∧ Hvys 0 w' v l ∧ Aft w w') :=
  h.mono fun e w' ⟨v, l', he, h1, h2, h3, h4⟩ => ⟨v, he, by rw [← h1.one hl]; exact (h3.list (by omega)).mono (Nat.zero_le _), h4⟩
theorem ret_len {c : Edg → Nat} {n : Nat} {f : FuncId} {args : Array Value} {w : World} (h : Calls Try.prog f args w (HvP c n w)) (hl : Lists c []) (hn : n ≤ 1000000) : Calls Try.prog f args w (fun e w' => ∃ p c, e = .returned (.slice p 0 c) ∧ Aft w w') :=
  (ret_list h hl hn).mono fun e w' ⟨v, he, h1, h2⟩ => by
    obtain ⟨p, c, hv, _⟩ := h1.open_
    exact ⟨p, c, by rw [he, hv]; rfl, h2⟩
theorem edges_at {w : World} {v u : Value} (hh : HistV w v u SH) : Calls Try.prog 9 #[.agg #[v, u]] w (fun e w' => ∃ v, e = .returned v ∧ Hvys 0 w' v L3 ∧ Aft w w') := ret_list (edges_any w hh SH_sm (by decide)) SH_lists (Nat.le_refl _)
theorem edges2_len {w : World} {v u : Value} (hh : HistV w v u SH2) : Calls Try.prog 9 #[.agg #[v, u]] w (fun e w' => ∃ p c, e = .returned (.slice p 0 c) ∧ Aft w w') :=
  ret_len (edges_any w hh SH2_sm (by decide)) ⟨[], by simp, fun x => by rw [cntE_wrong (by decide +kernel)]; simp, rfl⟩ (Nat.le_refl _)
theorem aft_drewN (w : World) (q : Nat) : Aft w (w.drewN q) := below_drewN (Below.refl _ _) q
theorem hvys_lit {W : World} {g : Nat} (h : W.heap[g]? = some (.cells #[.int .i64 1, .int .i64 2, .int .i64 1, .int .i64 5, .int .i64 1, .int .i64 1, .int .i64 2, .int .i64 2, .int .i64 5, .int .i64 1, .int .i64 3, .int .i64 1, .int .i64 3, .int .i64 5, .int .i64 2] 35)) : Hvys 0 W (.slice (some ⟨g, 0, none⟩) 3 3) L3 := by
  refine .inr ⟨g, 0, 3, rfl, Nat.zero_le _, heap_lt h, by decide, fun k hk => ?_⟩
  have hk : k < 3 := hk
  match k, hk with
  | 0, _ => simp [World.cell?, h, L3]
  | 1, _ => simp [World.cell?, h, L3]
  | 2, _ => simp [World.cell?, h, L3]
theorem eds_lit {W : World} {g : Nat} (h : W.heap[g]? = some (.cells #[.int .i64 1, .int .i64 2, .int .i64 1, .int .i64 5, .int .i64 1, .int .i64 2, .int .i64 2, .int .i64 5, .int .i64 3, .int .i64 1, .int .i64 3, .int .i64 5] 33)) : Pk.Eds W (.slice (some ⟨g, 0, none⟩) 3 3) E3 := by
  refine .inr ⟨g, 0, 3, rfl, heap_lt h, by decide, fun k hk => ?_⟩
  have hk : k < 3 := hk
  match k, hk with
  | 0, _ => simp [World.cell?, h, E3]
  | 1, _ => simp [World.cell?, h, E3]
  | 2, _ => simp [World.cell?, h, E3]
end Go.Proofs.Ytmgkpabagpgilaa.Dg
namespace Go.Proofs.Ytmgkpabagpgilaa.Dg
open Go.ChangeShapes Go.WideShapes Go.ChangeAt Go.RowKit Base F Tx Hi Off
def TrueP (w : World) (e : Ending) (w' : World) : Prop := e = .returned (.bool true) ∧ Aft w w'
theorem ne_self (a b c d : Int) (W : World) : (binOp .neq 33 (.agg #[.int .i64 a, .int .i64 b, .int .i64 c, .int .i64 d]) (.agg #[.int .i64 a, .int .i64 b, .int .i64 c, .int .i64 d])).run Try.prog W = .ok (.bool false) W := by
  have := Pk.neE (a, b, c, d) (a, b, c, d) W
  simpa using this
set_option maxRecDepth 100000 in
set_option maxHeartbeats 4000000 in
theorem begins_any (w : World) : Calls Try.prog 4 #[] w (TrueP w) := by
  have HSM := Lib.hid (small_any w)
  have HE : Hid (∀ W, Aft w W → TrueP w (.returned (.bool true)) W) := Lib.hid fun W hW => ⟨rfl, hW⟩
  generalize TrueP w = Post at HE ⊢
  go_enter Try.func4, Try.ntmps4
  go_wp2_with fail
  refine HSM.out.mono ?_
  rintro e w1 ⟨p, c, q, d, rfl, hh, ha⟩
  have HA := Lib.hid ha
  have HED := Lib.hid (edges_at hh)
  clear HSM hh ha
  go_wp2_with fail
  refine HED.out.mono ?_
  rintro e w2 ⟨v, rfl, hv, ha⟩
  obtain ⟨lp, lc, rfl, _⟩ := hv.open_
  have HF := Lib.hid (HE.out w2 (HA.out.trans ha))
  have h3 : L3.length = 3 := rfl
  rw [h3]
  clear HED HE HA hv ha h3
  go_wp2_with fail
  exact HF.out
theorem light_sm2 {h : Hist} (ht : ∀ t ∈ h.txs, Txn.ok t) (ho : ∀ o ∈ h.ords, Ordr.ok o) (hl : lightB h = true) : HistSm h ∧ HistSm (twoH h) ∧ h.ords.length ≤ 24 ∧ h.txs.length ≤ 12 ∧ ∀ t ∈ h.txs, t.ops.length ≤ 24 := by
  obtain ⟨h1, h2, h3, h4⟩ := (lightB_iff h).1 hl
  refine ⟨⟨ht, ho, by omega, fun t hm => by have := h3 t hm; omega, fun o hm => by have := h4 o hm; omega⟩, ⟨two_ok ht, ho, by show (h.txs.map twoT).length ≤ _; rw [List.length_map]; omega, fun t hm => ?_, fun o hm => by have := h4 o hm; omega⟩, h2, h1, h3⟩
  obtain ⟨x, hx, rfl⟩ := List.mem_map.1 hm
  have := h3 x hx
  have := two_len x.ops
  show (two x.ops).length ≤ _
  omega
theorem cnt_bd2 {h : Hist} (hs : HistSm h) (P : Int → Bool) (e : Edg) : cntE h P e ≤ 300000000 := by
  unfold cntE
  split
  · have h1 := ww_le (nxH P h.ords) (fun _ => false) e
    have h2 := sumT_le (nxH P h.ords) (fun q => ((laH P h.txs q.1 q.2 : Nat) : Int)) P h.txs e (fun x hx => by have := hs.ops x hx; omega)
    have := hs.num
    omega
  · omega
end Go.Proofs.Ytmgkpabagpgilaa.Dg
