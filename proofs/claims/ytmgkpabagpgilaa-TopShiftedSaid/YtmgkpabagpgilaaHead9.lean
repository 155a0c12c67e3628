/-
  Contracts of small functions, several texts laid into one. Not a statement of the seat.
-/
import Derived.Test.YtmgkpabagpgilaaHead6
import Derived.Test.YtmgkpabagpgilaaFs1
import Derived.Test.YtmgkpabagpgilaaHead3
namespace Go.Proofs.Ytmgkpabagpgilaa.Tx
open Go.ChangeShapes Go.WideShapes Go.ChangeAt Go.RowKit Base F Lst Go.Sort
def OwnNew (xs : List Int) (w : World) (e : Ending) (w' : World) : Prop := ∃ v, e = .returned v ∧ OwnI w.heap.size w' v xs ∧ Aft w w'
/-- Lists of the call's own on their way. -/
def Way (w wr : World) (v : Value) (zs : List Int) : Prop := OwnI w.heap.size wr v zs ∧ Aft w wr
theorem Way.nil {w : World} : Way w w (.slice none 0 0) [] := ⟨OwnI.nil _ _, Aft.refl _⟩
theorem Way.lay {w wr : World} {v : Value} {zs : List Int} (h : Way w wr v zs) (o : Obj) : Way w (wr.alloc o) v zs := ⟨h.1.lay rfl o, h.2.lay o⟩
theorem Way.onto {w wr w' : World} {v v' : Value} {zs zs' : List Int} (h : Way w wr v zs) (ho : OwnI w.heap.size w' v' zs') (hg : wr.grownBy w' v.ownBlock) : Way w w' v' zs' := ⟨ho, Below.grown h.2 hg h.2.size (own_base h.1)⟩
theorem own_put {B : Nat} {w : World} {g n cap q : Nat} {zs ys tl : List Int} (h : OwnI B w (.slice (some ⟨g, 0, none⟩) n cap) zs) (hl : ys.length + tl.length = zs.length) : OwnI B (putRow (Value.int .i64) (Sort.ahead w q) g 0 (ys ++ tl).toArray) (.slice (some ⟨g, 0, none⟩) ys.length cap) ys := by
  rcases h.2 with ⟨hv, _⟩ | ⟨g', cap', cur, hv, hB, hg, hc, hmx, hsz, htk⟩
  · cases hv
  · injection hv with e1 e2 e3
    injection e1 with e1
    injection e1 with e1
    subst e1 e2 e3
    refine ⟨by simp, .inr ⟨g, cap, _, rfl, hB, (heap_putRow _ hg).1, by omega, hmx, by simpa [putCells] using hsz, ?_⟩⟩
    apply List.ext_getElem?
    intro k
    rw [List.getElem?_take]
    split
    · rename_i hk
      have hk' : k < ys.length := by simpa using hk
      have hkc : k < cur.size := by omega
      rw [Array.getElem?_toList, putCells, Array.getElem?_mapIdx, Array.getElem?_eq_getElem hkc, Option.map_some, if_pos ⟨Nat.zero_le _, by simp; omega⟩, List.getElem?_map, List.getElem?_eq_getElem hk']
      simp [hk', List.getElem?_append]
    · rename_i hk
      rw [List.getElem?_eq_none (by simp at hk ⊢; omega)]
theorem putRow_grown {B : Nat} {w : World} {g n cap q : Nat} {zs : List Int} (d : Array Int) (h : OwnI B w (.slice (some ⟨g, 0, none⟩) n cap) zs) : w.grownBy (putRow (Value.int .i64) (Sort.ahead w q) g 0 d) (some g) := by
  rcases h.2 with ⟨hv, _⟩ | ⟨g', cap', cur, hv, hB, hg, _⟩
  · cases hv
  · injection hv with e1 e2 e3
    injection e1 with e1
    injection e1 with e1
    subst e1
    exact ⟨rfl, rfl, rfl, by rw [(heap_putRow d hg).2.2]; exact Nat.le_refl _, fun k _ hk => (heap_putRow d hg).2.1 k (fun e => hk (by rw [e]))⟩
theorem grown_grow (w : World) (os : Array Obj) : Below w.heap.size w (grow w os) := ⟨rfl, rfl, rfl, by show w.heap.size ≤ (w.heap ++ os).size; simp, fun b hb => by show (w.heap ++ os)[b]? = w.heap[b]?; rw [Array.getElem?_append_left hb]⟩
/-- Sorted in place. -/
theorem sort_own {w W : World} {v : Value} {zs : List Int} (h : Way w W v zs) (hl : zs.length ≤ 1000000) : Calls Try.prog 54 #[v] W fun e w' => e = .returned (.tuple #[]) ∧ Way w w' v (zs.mergeSort fun x y => decide (x ≤ y)) := by
  rcases h.1.form with ⟨rfl, rfl⟩ | ⟨g, cap, rfl, hB, hg, hcap⟩
  · exact (Try.slices_Sort_int_none none 0 W).mono fun e w' ⟨h1, h2⟩ => ⟨h1, by rw [h2, List.mergeSort_nil]; exact ⟨OwnI.nil _ _, h.2⟩⟩
  · refine (Try.slices_Sort_int g 0 cap zs W h.1.holds hg (by omega)).mono fun e w' ⟨h1, n, os, h2⟩ => ⟨h1, ?_⟩
    have hp : (zs.mergeSort fun x y => decide (x ≤ y)).length = zs.length := List.length_mergeSort _
    have hw : Way w (putRow (Value.int .i64) (Sort.ahead W n) g 0 (zs.mergeSort fun x y => decide (x ≤ y)).toArray) (.slice (some ⟨g, 0, none⟩) zs.length cap) (zs.mergeSort fun x y => decide (x ≤ y)) := by
      have := own_put (q := n) (tl := []) h.1 (ys := zs.mergeSort fun x y => decide (x ≤ y)) (by rw [hp]; rfl)
      rw [List.append_nil, hp] at this
      exact h.onto this (putRow_grown _ h.1)
    rw [h2]
    exact ⟨hw.1.below (grown_grow _ _), hw.2.trans (grown_grow _ _)⟩
/-- Compacted in place. -/
theorem compact_own {w W : World} {v : Value} {zs : List Int} (h : Way w W v zs) (hl : zs.length ≤ 1000000) : Calls Try.prog 55 #[v] W fun e w' => ∃ v', e = .returned v' ∧ Way w w' v' (Lib.compact zs) := by
  rcases h.1.form with ⟨rfl, rfl⟩ | ⟨g, cap, rfl, hB, hg, hcap⟩
  · exact (Try.slices_Compact_int_empty none 0 W).mono fun e w' ⟨h1, h2⟩ => ⟨_, h1, by rw [h2]; exact ⟨OwnI.nil _ _, h.2⟩⟩
  · have hlc : (Lib.compact zs).length ≤ zs.length := by
      unfold Lib.compact Lib.compactUpTo
      rw [List.length_map]
      have := List.length_filter_le (Lib.keeps zs.toArray) (List.range zs.length)
      simpa using this
    refine (Try.slices_Compact_int g 0 cap zs W h.1.holds (by omega) hcap).mono fun e w' ⟨h1, q, h2⟩ => ⟨_, h1, ?_⟩
    rw [h2]
    exact h.onto (own_put h.1 (by simp; omega)) (putRow_grown _ h.1)
set_option maxRecDepth 100000 in
set_option maxHeartbeats 1000000 in
theorem keysOf_any {base : Nat} {s : Value} {l : List Opr} (w : World) (h : Oprs base w s l) (hl : l.length ≤ 100000) : Calls Try.prog 47 #[s] w (OwnNew (keysO l) w) := by
  obtain ⟨p, c, rfl, _, hc⟩ := h.open_
  have HC := Lib.hid hc
  have HE : Hid (∀ v w', Way w w' v (Lib.compact ((l.map Opr.k).mergeSort fun x y => decide (x ≤ y))) → OwnNew (keysO l) w (.returned v) w') := Lib.hid fun v w' h1 => ⟨v, rfl, by rw [compact_sort] at h1; exact h1.1, h1.2⟩
  clear h hc
  generalize OwnNew (keysO l) w = Post at HE ⊢
  go_enter Try.func47, Try.ntmps47
  go_wp2
  go_loopw [3, 8] (fun s3 s8 wr => ∃ k : Nat, s8 = .int .i64 k ∧ k ≤ l.length ∧ Hid (Way w wr s3 ((l.take k).map Opr.k))) (fun _ s8 _ => l.length - (intOf s8).toNat)
  case atStart => exact ⟨0, rfl, Nat.zero_le _, Lib.hid Way.nil⟩
  case round =>
    obtain ⟨k, rfl, hk, HW⟩ := hrel
    by_cases hlt : k < l.length
    · obtain ⟨g', o', rfl, _, hg', c0, c1, c2, c3⟩ := HC.out k hlt
      have d0 := HW.out.2.cell hg' c0
      have d1 := HW.out.2.cell hg' c1
      have d2 := HW.out.2.cell hg' c2
      have d3 := HW.out.2.cell hg' c3
      have HS : Hid ((l.take (k + 1)).map Opr.k = (l.take k).map Opr.k ++ [(l.getD k Opr.zero).k]) := Lib.hid (by rw [take_snoc l Opr.zero k hlt, List.map_append]; rfl)
      have hlm : ((l.take k).map Opr.k).length ≤ 100000 := by rw [List.length_map, List.length_take]; omega
      have HW2 : Hid (∀ o, Way w (wr.alloc o) u3 ((l.take k).map Opr.k)) := Lib.hid fun o => HW.out.lay o
      clear c0 c1 c2 c3
      generalize l.getD k Opr.zero = x at d0 d1 d2 d3 HS
      go_wp2_with (at_builtin; refine append_ints rfl (.tmp 12) (.tmp 15) rfl ((HW2.out _).lay _).2.size ((HW2.out _).lay _).1 rfl (int_at x.k (heap_alloc_at _ _ _ (by simp))) (fun n c e => by cases e) rfl (by simp only [List.length_cons, List.length_nil]; omega) ?_; intro v2 w2 h1 h2 _; have H3 : Hid (Way w w2 v2 ((l.take (k + 1)).map Opr.k)) := Lib.hid (by rw [HS.out]; exact Way.onto ((HW2.out _).lay _) h1 h2); clear h1 h2)
      go_roundw
      case rel => exact ⟨k + 1, by go_num, by omega, H3⟩
      case measure => simp [intOf]; omega
    · have HW2 : Hid (Way w wr u3 (l.map Opr.k)) := Lib.hid (by
        have := HW.out
        rwa [List.take_of_length_le (by omega)] at this)
      have hlm : (l.map Opr.k).length ≤ 1000000 := by rw [List.length_map]; omega
      clear HW
      go_wp2_with (first
        | (go_at_call 54; refine (sort_own HW2.out hlm).mono ?_; rintro e w1 ⟨rfl, h1⟩; have H1 := Lib.hid h1; clear h1)
        | (go_at_call 55; refine (compact_own H1.out (by rw [List.length_mergeSort]; exact hlm)).mono ?_; rintro e w2 ⟨v2, rfl, h2⟩; have H2 := Lib.hid h2; clear h2))
      exact HE.out _ _ H2.out
end Go.Proofs.Ytmgkpabagpgilaa.Tx
namespace Go.Proofs.Ytmgkpabagpgilaa.Tx
open Go.ChangeShapes Go.WideShapes Go.ChangeAt Go.RowKit Base F Lst Go.Sort
/-- Those that are written alone, or all. -/
def tch (b : Bool) (l : List Opr) : List Opr := if b then l else bareL l
theorem tch_snoc (b : Bool) (l : List Opr) (o : Opr) : tch b (l ++ [o]) = tch b l ++ (if b = true ∨ o.rd = false then [o] else []) := by
  unfold tch
  cases b with
  | true => simp
  | false => rw [if_neg (by simp), if_neg (by simp), bareL_snoc]; cases o.rd <;> simp
theorem tch_len (b : Bool) (l : List Opr) : (tch b l).length ≤ l.length := by unfold tch; cases b; exact bareL_len l; exact Nat.le_refl _
end Go.Proofs.Ytmgkpabagpgilaa.Tx
namespace Go.Proofs.Ytmgkpabagpgilaa.Tx
open Go.ChangeShapes Go.WideShapes Go.ChangeAt Go.RowKit Base F Lst
/-- On the way to a transaction without its reads: the result's box, its own box, what it has. -/
def BI (w wr : World) (id : Int) (d : Bool) (v : Value) (zs : List Opr) : Prop :=
  wr.heap[w.heap.size + 1]? = some (boxT 0 false (.slice none 0 0)) ∧ wr.heap[w.heap.size + 1 + 1]? = some (boxT id d v) ∧ OwnOpr (w.heap.size + 3) wr v zs ∧ Aft w wr
theorem BI.lay {w wr : World} {id : Int} {d : Bool} {v : Value} {zs : List Opr} (h : BI w wr id d v zs) (o : Obj) : BI w (wr.alloc o) id d v zs :=
  ⟨heap_alloc_lt _ _ _ _ h.1, heap_alloc_lt _ _ _ _ h.2.1, h.2.2.1.lay rfl o, h.2.2.2.lay o⟩
theorem BI.app {w wr w' : World} {id : Int} {d : Bool} {v v' : Value} {zs zs' : List Opr} (h : BI w wr id d v zs) (ho : OwnOpr (w.heap.size + 3) w' v' zs') (hg : wr.grownBy w' v.ownBlock) :
    (w'.cell? ⟨w.heap.size + 1 + 1, 2, none⟩ = some v ∧ w'.frozen? ⟨w.heap.size + 1 + 1, 2, none⟩ = false) ∧ BI w (w'.setCell ⟨w.heap.size + 1 + 1, 2, none⟩ v') id d v' zs' := by
  have hne : ∀ j, j ≤ w.heap.size + 1 + 1 → some j ≠ v.ownBlock := fun j hj e => by have := (h.2.2.1.base j e.symm).1; omega
  have h1 : w'.heap[w.heap.size + 1]? = some (boxT 0 false (.slice none 0 0)) := (hg.block _ (heap_lt h.1) (hne _ (by omega))).trans h.1
  have h2 : w'.heap[w.heap.size + 1 + 1]? = some (boxT id d v) := (hg.block _ (heap_lt h.2.1) (hne _ (by omega))).trans h.2.1
  have hs := storedT_ops h2 v'
  refine ⟨⟨(cellsT h2).2.1.2.2, (cellsT h2).2.2.2.2⟩, (hs.2.2.2.2.2 _ (by omega)).trans h1, hs.2.2.2.2.1, ho.kept (row := some (w.heap.size + 1 + 1)) (stored_grown hs) (.inr fun e => by have := (ho.base _ e).1; omega), ?_⟩
  exact hs.below (Below.grown h.2.2.2 hg h.2.2.2.size (fun k hk => by have := (h.2.2.1.base k hk).1; omega)) (by omega)
/-- What Bare leaves. -/
def BareP (id : Int) (d : Bool) (zs : List Opr) (w : World) (e : Ending) (w' : World) : Prop := ∃ s, e = .returned (.agg #[.int .i64 id, .bool d, s]) ∧ OwnOpr w.heap.size w' s zs ∧ Aft w w'
theorem ownOpr_mono {B B' : Nat} {w : World} {v : Value} {zs : List Opr} (h : OwnOpr B w v zs) (hb : B' ≤ B) : OwnOpr B' w v zs := by
  refine ⟨h.1, ?_⟩
  rcases h.2 with hn | ⟨g, cap, cur, hv, hB, rest⟩
  · exact .inl hn
  · exact .inr ⟨g, cap, cur, hv, Nat.le_trans hb hB, rest⟩
theorem ownOpr_slice {B : Nat} {w : World} {v : Value} {zs : List Opr} (h : OwnOpr B w v zs) : ∃ p c, v = .slice p zs.length c ∧ zs.length ≤ c := by
  rcases h.2 with ⟨hv, h0⟩ | ⟨g, cap, cur, hv, _, _, hc, _⟩
  · exact ⟨none, 0, by rw [hv, h0], by omega⟩
  · exact ⟨_, cap, hv, hc⟩
set_option maxRecDepth 100000 in
set_option maxHeartbeats 2000000 in
theorem bare_any {base : Nat} {s : Value} {l : List Opr} (id : Int) (d : Bool) (w : World) (h : Oprs base w s l) (hl : l.length ≤ 100000) : Calls Try.prog 48 #[.agg #[.int .i64 id, .bool d, s]] w (BareP id d (bareL l) w) := by
  obtain ⟨p, c, rfl, _, hc⟩ := h.open_
  have HC := Lib.hid hc
  have HE : Hid (∀ v w', OwnOpr (w.heap.size + 3) w' v (bareL l) → Aft w w' → BareP id d (bareL l) w (.returned (.agg #[.int .i64 id, .bool d, v])) w') := Lib.hid fun v w' h1 h2 => ⟨v, rfl, ownOpr_mono h1 (by omega), h2⟩
  clear h hc
  generalize BareP id d (bareL l) w = Post at HE ⊢
  go_enter Try.func48, Try.ntmps48
  go_wp2
  go_loopw [14] (fun s14 wr => ∃ (k : Nat) (v : Value) (zs : List Opr), s14 = .int .i64 k ∧ k ≤ l.length ∧ zs.length ≤ k ∧ Hid (zs = bareL (l.take k)) ∧ Hid (BI w wr id d v zs)) (fun s14 _ => l.length - (intOf s14).toNat)
  case atStart => exact ⟨0, .slice none 0 0, [], rfl, Nat.zero_le _, Nat.le_refl _, Lib.hid rfl, Lib.hid ⟨heap_alloc_lt _ _ _ _ (heap_alloc_at _ _ _ (by simp)), heap_alloc_at _ _ _ (by simp), OwnOpr.nil _ _, ((Aft.one _).lay _).lay _⟩⟩
  case round =>
    obtain ⟨k, v, zs, rfl, hk, hzl, HZ, HB⟩ := hrel
    by_cases hlt : k < l.length
    · obtain ⟨g', o', rfl, _, hg', c0, c1, c2, c3⟩ := HC.out k hlt
      have d0 := HB.out.2.2.2.cell hg' c0
      have d1 := HB.out.2.2.2.cell hg' c1
      have d2 := HB.out.2.2.2.cell hg' c2
      have d3 := HB.out.2.2.2.cell hg' c3
      have HS : Hid (bareL (l.take (k + 1)) = zs ++ if (l.getD k Opr.zero).rd then [] else [l.getD k Opr.zero]) := Lib.hid (by rw [take_snoc l Opr.zero k hlt, bareL_snoc, HZ.out])
      clear c0 c1 c2 c3 HZ
      generalize l.getD k Opr.zero = x at d0 d1 d2 d3 HS
      cases hr : x.rd with
      | true =>
        have HZ2 : Hid (zs = bareL (l.take (k + 1))) := Lib.hid (by rw [HS.out, hr, if_pos rfl, List.append_nil])
        have HB2 : Hid (∀ o, BI w (wr.alloc o) id d v zs) := Lib.hid fun o => HB.out.lay o
        rw [hr] at d0
        clear HS hr
        go_wp2
        go_roundw
        case rel => exact ⟨k + 1, v, zs, by go_num, by omega, by omega, HZ2, Lib.hid (HB2.out _)⟩
        case measure => simp [intOf]; omega
      | false =>
        have HZ2 : Hid (zs ++ [x] = bareL (l.take (k + 1))) := Lib.hid (by rw [HS.out, hr, if_neg (by simp)])
        have HB2 : Hid (∀ o, BI w (wr.alloc o) id d v zs) := Lib.hid fun o => HB.out.lay o
        have h2 := (cellsT HB.out.2.1).2.1.2.2
        have h2l := (cellsT HB.out.2.1).1
        obtain ⟨xr, xk, xt, xn⟩ := x
        subst hr
        clear HS
        go_wp2_with (at_builtin; refine append_oprs rfl (.tmp 22) (.tmp 24) rfl (by have := HB.out.2.2.2.size; simp; omega) ((HB2.out _).lay _).2.2.1 rfl (opr_at ⟨false, xk, xt, xn⟩ (heap_alloc_at _ _ _ (by simp))) rfl (by simp only [List.length_cons, List.length_nil]; omega) ?_; intro v5 w5 h5 hg5 _; obtain ⟨p5, c5, hv5, _⟩ := ownOpr_slice h5; obtain ⟨n5, hn5⟩ : ∃ n, n = (zs ++ [(⟨false, xk, xt, xn⟩ : Opr)]).length := ⟨_, rfl⟩; rw [← hn5] at hv5; subst hv5; clear hn5; obtain ⟨⟨e1, e2⟩, e3⟩ := ((HB2.out _).lay _).app h5 hg5; have H5 := Lib.hid e3; clear h5 hg5 e3)
        go_roundw
        case rel => exact ⟨k + 1, _, zs ++ [⟨false, xk, xt, xn⟩], by go_num, by omega, by simp; omega, HZ2, H5⟩
        case measure => simp [intOf]; omega
    · have HZ2 : Hid (zs = bareL l) := Lib.hid (by rw [HZ.out, List.take_of_length_le (by omega)])
      obtain ⟨pv, cv, rfl, _⟩ := ownOpr_slice HB.out.2.2.1
      have hz := HZ2.out
      subst hz
      obtain ⟨e1, ⟨e2, e3, e4⟩, _⟩ := cellsT HB.out.2.1
      have HE2 : Hid (∀ w', Stored wr (w.heap.size + 1) (boxT id d (.slice pv (bareL l).length cv)) w' → w'.heap[w.heap.size + 1]? = some (boxT id d (.slice pv (bareL l).length cv)) ∧ Post (.returned (.agg #[.int .i64 id, .bool d, .slice pv (bareL l).length cv])) w') := Lib.hid fun w' h => ⟨h.2.2.2.2.1, HE.out _ _ (HB.out.2.2.1.kept (row := some (w.heap.size + 1)) (stored_grown h) (.inr fun e => by have := (HB.out.2.2.1.base _ e).1; omega)) (h.below HB.out.2.2.2 (by omega))⟩
      clear HZ HZ2 HE
      go_wp2_with (refine wpList_store_tx rfl (.tmp 2) (.tmp 28) rfl (w.heap.size + 1) id d pv (bareL l).length cv _ rfl rfl HB.out.1 rfl ?_; intro w4 hst; have HX := Lib.hid (HE2.out _ hst); clear hst)
      exact bodyPost_ret (v := .agg #[.int .i64 id, .bool d, .slice pv (bareL l).length cv]) (results_tx Try.results48 _ _ (w.heap.size + 1) id d _ rfl HX.out.1) rfl HX.out.2
/-- On the way to a transaction without its reads, by the document: its box, the result's, what it has. -/
def RI (w wr : World) (id : Int) (d : Bool) (s v : Value) (zs : List Opr) : Prop :=
  wr.heap[w.heap.size]? = some (boxT id d s) ∧ wr.heap[w.heap.size + 1]? = some (boxT 0 false (.slice none 0 0)) ∧ OwnOpr (w.heap.size + 2) wr v zs ∧ Aft w wr
theorem RI.lay {w wr : World} {id : Int} {d : Bool} {s v : Value} {zs : List Opr} (h : RI w wr id d s v zs) (o : Obj) : RI w (wr.alloc o) id d s v zs :=
  ⟨heap_alloc_lt _ _ _ _ h.1, heap_alloc_lt _ _ _ _ h.2.1, h.2.2.1.lay rfl o, h.2.2.2.lay o⟩
theorem RI.app {w wr w' : World} {id : Int} {d : Bool} {s v v' : Value} {zs zs' : List Opr} (h : RI w wr id d s v zs) (ho : OwnOpr (w.heap.size + 2) w' v' zs') (hg : wr.grownBy w' v.ownBlock) : RI w w' id d s v' zs' := by
  have hne : ∀ j, j ≤ w.heap.size + 1 → some j ≠ v.ownBlock := fun j hj e => by have := (h.2.2.1.base j e.symm).1; omega
  exact ⟨(hg.block _ (heap_lt h.1) (hne _ (by omega))).trans h.1, (hg.block _ (heap_lt h.2.1) (hne _ (by omega))).trans h.2.1, ho, Below.grown h.2.2.2 hg h.2.2.2.size (fun k hk => by have := (h.2.2.1.base k hk).1; omega)⟩
theorem fld_ops (id : Int) (d : Bool) (p : Option Addr) (n c : Nat) (w : World) : (Instr.field 40 (.agg #[.int .i64 id, .bool d, .slice p n c]) 2).run Try.prog w = .ok (.slice p n c) w := by kernel_rfl
set_option maxRecDepth 100000 in
theorem keys_any {base : Nat} {s : Value} {l : List Opr} (id : Int) (d : Bool) (w : World) (h : Oprs base w s l) (hl : l.length ≤ 100000) : Calls Try.prog 33 #[.agg #[.int .i64 id, .bool d, s]] w (OwnNew (keysO (bareL l)) w) := by
  have HB : Hid (∀ o, Calls Try.prog 48 #[.agg #[.int .i64 id, .bool d, s]] (w.alloc o) (BareP id d (bareL l) (w.alloc o))) := Lib.hid fun o => bare_any id d (w.alloc o) (h.below ((Below.refl _ _).alloc (Nat.le_refl _) _)) hl
  have HK : Hid (∀ o w1 v1, OwnOpr (w.alloc o).heap.size w1 v1 (bareL l) → Aft (w.alloc o) w1 → Calls Try.prog 47 #[v1] w1 fun e w' => ∃ v, e = .returned v ∧ OwnNew (keysO (bareL l)) w (.returned v) w') := Lib.hid fun o w1 v1 h1 h2 => (keysOf_any w1 (h1.list (by have := bareL_len l; omega)) (by have := bareL_len l; omega)).mono fun e w' ⟨v, e1, e2, e3⟩ => ⟨v, e1, v, rfl, by
    refine ⟨e2.1, ?_⟩
    rcases e2.2 with hn | ⟨g, cap, cur, hv, hB, rest⟩
    · exact .inl hn
    · exact .inr ⟨g, cap, cur, hv, Nat.le_trans ((Aft.one o).trans h2).size hB, rest⟩, ((Aft.one o).trans h2).trans e3⟩
  obtain ⟨p, c, rfl, _, _⟩ := h.open_
  generalize OwnNew (keysO (bareL l)) w = Post at HK ⊢
  clear h
  have hfl := fld_ops
  go_enter Try.func33, Try.ntmps33
  go_wp2_with (first
    | (go_at_call 48; refine (HB.out _).mono ?_; rintro e w1 ⟨v1, rfl, h1, h2⟩; obtain ⟨p1, c1, hv1, _⟩ := ownOpr_slice h1; subst hv1; have H1 := Lib.hid h1; have H2 := Lib.hid h2; clear h1 h2)
    | (go_at_call 47; refine (HK.out _ _ _ H1.out H2.out).mono ?_; rintro e w2 ⟨v2, rfl, h1⟩; have H3 := Lib.hid h1; clear h1))
  exact H3.out
end Go.Proofs.Ytmgkpabagpgilaa.Tx
