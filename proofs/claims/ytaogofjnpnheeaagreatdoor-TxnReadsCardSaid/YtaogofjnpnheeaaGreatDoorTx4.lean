/-
  Boxes of transactions; contracts of txn's Bare and Keys, and of the document's Bare. Not a statement of the seat.
-/
import Derived.Test.YtaogofjnpnheeaaGreatDoorTx3
namespace Go.Proofs.YtaogofjnpnheeaaGreatDoor.Tx
open Go.ChangeShapes Go.WideShapes Go.ChangeAt Go.RowKit Base F Lst
/-- A transaction's box. -/
def boxT (id : Int) (d : Bool) (s : Value) : Obj := .cells #[.int .i64 id, .bool d, s] 24
theorem cellsT {w : World} {g : Nat} {id : Int} {d : Bool} {s : Value} (h : w.heap[g]? = some (boxT id d s)) : g < w.heap.size ∧ (w.cell? ⟨g, 0, none⟩ = some (.int .i64 id) ∧ w.cell? ⟨g, 1, none⟩ = some (.bool d) ∧ w.cell? ⟨g, 2, none⟩ = some s) ∧
    w.frozen? ⟨g, 0, none⟩ = false ∧ w.frozen? ⟨g, 1, none⟩ = false ∧ w.frozen? ⟨g, 2, none⟩ = false := by
  refine ⟨heap_lt h, ?_⟩
  unfold boxT at h
  simp [World.cell?, World.frozen?, h]
set_option maxRecDepth 100000 in
theorem wpList_store_tx {ops : Array Oper} {rest : List Oper} {o : Oper} {a : Act} {w : World} {Q : Exit → Act → World → Prop} (hgd : o.guard = none) (x y : Operand) (ho : o.op = .store 24 x y)
    (g : Nat) (id : Int) (d : Bool) (p : Option Addr) (n c : Nat) (c0 : Array Value) (hx : a.eval x = .pointer (some ⟨g, 0, none⟩)) (hy : a.eval y = .agg #[.int .i64 id, .bool d, .slice p n c]) (hg : w.heap[g]? = some (.cells c0 24)) (h3 : c0.size = 3)
    (h : ∀ w', Stored w g (boxT id d (.slice p n c)) w' → wpList Tryz.prog ops Q rest (a.put o.dst undef) w') : wpList Tryz.prog ops Q (o :: rest) a w :=
  wpList_store_row hgd _ x y ho g _ hx hy 24 _ hg (by kernel_rfl) (by rw [h3]; rfl) (by simp [Value.oneCell']) (h _ (stored_setRow _ _ _ _ _ hg))
set_option maxRecDepth 100000 in
/-- A call's result, a transaction in a box. -/
theorem results_tx {fn : Func} {p : Tmp} (h : fn.results = #[.cell p 24]) (tmps : Array Value) (w : World) (g : Nat) (id : Int) (d : Bool) (s : Value)
    (hp : tmps.getD p undef = .pointer (some ⟨g, 0, none⟩)) (hg : w.heap[g]? = some (boxT id d s)) : (results fn tmps).run Tryz.prog w = .ok (.agg #[.int .i64 id, .bool d, s]) w :=
  results_cell_row h tmps w g _ _ _ _ hp hg Tryz.underlying24 rfl (by kernel_rfl)
theorem storedT_ops {w : World} {g : Nat} {id : Int} {d : Bool} {s : Value} (h : w.heap[g]? = some (boxT id d s)) (x : Value) : Stored w g (boxT id d x) (w.setCell ⟨g, 2, none⟩ x) := by
  unfold boxT at h
  refine ⟨rfl, rfl, rfl, by simp [World.setCell], ?_, fun j hj => Below.heap_setCell _ _ _ _ hj⟩
  simp [World.setCell, Array.getElem?_modify, h, boxT]
theorem stored_grown {w w' : World} {g : Nat} {o : Obj} (h : Stored w g o w') : w.grownBy w' (some g) := ⟨h.1, h.2.1, h.2.2.1, by rw [h.2.2.2.1]; exact Nat.le_refl _, fun k _ hk => h.2.2.2.2.2 k (fun e => hk (by rw [e]))⟩
/-- On the way to a transaction without its reads: the result's box, its own box, what it has. -/
def BI (w wr : World) (id : Int) (d : Bool) (v : Value) (zs : List Opr) : Prop :=
  wr.heap[w.heap.size + 1]? = some (boxT 0 false (.slice none 0 0)) ∧ wr.heap[w.heap.size + 1 + 1]? = some (boxT id d v) ∧ OwnOpr (w.heap.size + 3) wr v zs ∧ Aft w wr
theorem BI.lay {w wr : World} {id : Int} {d : Bool} {v : Value} {zs : List Opr} (h : BI w wr id d v zs) (o : Obj) : BI w (wr.alloc o) id d v zs :=
  ⟨heap_alloc_lt _ _ _ _ h.1, heap_alloc_lt _ _ _ _ h.2.1, h.2.2.1.lay rfl o, h.2.2.2.lay o⟩
theorem BI.app {w wr w' : World} {id : Int} {d : Bool} {v v' : Value} {zs zs' : List Opr} (h : BI w wr id d v zs) (ho : OwnOpr (w.heap.size + 3) w' v' zs') (hg : wr.grownBy w' v.ownBlock) :
    (w'.cell? ⟨w.heap.size + 1 + 1, 2, none⟩ = some v ∧ w'.frozen? ⟨w.heap.size + 1 + 1, 2, none⟩ = false) ∧ BI w (w'.setCell ⟨w.heap.size + 1 + 1, 2, none⟩ v') id d v' zs' := by
  have hne : ∀ j, j ≤ w.heap.size + 1 + 1 → some j ≠ v.ownBlock := fun j hj e => by have := (h.2.2.1.base j e.symm).1; omega
  have h1 : w'.heap[w.heap.size + 1]? = some (boxT 0 false (.slice none 0 0)) := (hg.block _ (heap_lt h.1) (hne _ (by omega))).trans h.1
  have h2 : w'.heap[w.heap.size + 1 + 1]? = some (boxT id d v) := (hg.block _ (heap_lt h.2.1) (hne _ (by omega))).trans h.2.1
  have hs := storedT_ops h2 v'
  refine ⟨⟨(cellsT h2).2.1.2.2, (cellsT h2).2.2.2.2⟩, (hs.2.2.2.2.2 _ (by omega)).trans h1, hs.2.2.2.2.1, ho.kept (row := some (w.heap.size + 1 + 1)) (stored_grown hs) (.inr fun e => by have := (ho.base _ e).1; omega), ?_⟩
  exact hs.below (Below.grown h.2.2.2 hg h.2.2.2.size (fun k hk => by have := (h.2.2.1.base k hk).1; omega)) (by omega)
/-- What Bare leaves. -/
def BareP (id : Int) (d : Bool) (zs : List Opr) (w : World) (e : Ending) (w' : World) : Prop := ∃ s, e = .returned (.agg #[.int .i64 id, .bool d, s]) ∧ OwnOpr w.heap.size w' s zs ∧ Aft w w'
theorem ownOpr_mono {B B' : Nat} {w : World} {v : Value} {zs : List Opr} (h : OwnOpr B w v zs) (hb : B' ≤ B) : OwnOpr B' w v zs := by
  refine ⟨h.1, ?_⟩
  rcases h.2 with hn | ⟨g, cap, cur, hv, hB, rest⟩
  · exact .inl hn
  · exact .inr ⟨g, cap, cur, hv, Nat.le_trans hb hB, rest⟩
theorem ownOpr_slice {B : Nat} {w : World} {v : Value} {zs : List Opr} (h : OwnOpr B w v zs) : ∃ p c, v = .slice p zs.length c ∧ zs.length ≤ c := by
  rcases h.2 with ⟨hv, h0⟩ | ⟨g, cap, cur, hv, _, _, hc, _⟩
  · exact ⟨none, 0, by rw [hv, h0], by omega⟩
  · exact ⟨_, cap, hv, hc⟩
set_option maxRecDepth 100000 in
set_option maxHeartbeats 2000000 in
theorem bare_any {base : Nat} {s : Value} {l : List Opr} (id : Int) (d : Bool) (w : World) (h : Oprs base w s l) (hl : l.length ≤ 100000) : Calls Tryz.prog 16 #[.agg #[.int .i64 id, .bool d, s]] w (BareP id d (bareL l) w) := by
  obtain ⟨p, c, rfl, _, hc⟩ := h.open_
  have HC := Lib.hid hc
  have HE : Hid (∀ v w', OwnOpr (w.heap.size + 3) w' v (bareL l) → Aft w w' → BareP id d (bareL l) w (.returned (.agg #[.int .i64 id, .bool d, v])) w') := Lib.hid fun v w' h1 h2 => ⟨v, rfl, ownOpr_mono h1 (by omega), h2⟩
  clear h hc
  generalize BareP id d (bareL l) w = Post at HE ⊢
  go_enter Tryz.func16, Tryz.ntmps16
  go_wp2
  go_loopw [14] (fun s14 wr => ∃ (k : Nat) (v : Value) (zs : List Opr), s14 = .int .i64 k ∧ k ≤ l.length ∧ zs.length ≤ k ∧ Hid (zs = bareL (l.take k)) ∧ Hid (BI w wr id d v zs)) (fun s14 _ => l.length - (intOf s14).toNat)
  case atStart => exact ⟨0, .slice none 0 0, [], rfl, Nat.zero_le _, Nat.le_refl _, Lib.hid rfl, Lib.hid ⟨heap_alloc_lt _ _ _ _ (heap_alloc_at _ _ _ (by simp)), heap_alloc_at _ _ _ (by simp), OwnOpr.nil _ _, ((Aft.one _).lay _).lay _⟩⟩
  case round =>
    obtain ⟨k, v, zs, rfl, hk, hzl, HZ, HB⟩ := hrel
    by_cases hlt : k < l.length
    · obtain ⟨g', o', rfl, _, hg', c0, c1, c2, c3⟩ := HC.out k hlt
      have d0 := HB.out.2.2.2.cell hg' c0
      have d1 := HB.out.2.2.2.cell hg' c1
      have d2 := HB.out.2.2.2.cell hg' c2
      have d3 := HB.out.2.2.2.cell hg' c3
      have HS : Hid (bareL (l.take (k + 1)) = zs ++ if (l.getD k Opr.zero).rd then [] else [l.getD k Opr.zero]) := Lib.hid (by rw [take_snoc l Opr.zero k hlt, bareL_snoc, HZ.out])
      clear c0 c1 c2 c3 HZ
      generalize l.getD k Opr.zero = x at d0 d1 d2 d3 HS
      cases hr : x.rd with
      | true =>
        have HZ2 : Hid (zs = bareL (l.take (k + 1))) := Lib.hid (by rw [HS.out, hr, if_pos rfl, List.append_nil])
        have HB2 : Hid (∀ o, BI w (wr.alloc o) id d v zs) := Lib.hid fun o => HB.out.lay o
        rw [hr] at d0
        clear HS hr
        go_wp2
        go_roundw
        case rel => exact ⟨k + 1, v, zs, by go_num, by omega, by omega, HZ2, Lib.hid (HB2.out _)⟩
        case measure => simp [intOf]; omega
      | false =>
        have HZ2 : Hid (zs ++ [x] = bareL (l.take (k + 1))) := Lib.hid (by rw [HS.out, hr, if_neg (by simp)])
        have HB2 : Hid (∀ o, BI w (wr.alloc o) id d v zs) := Lib.hid fun o => HB.out.lay o
        have h2 := (cellsT HB.out.2.1).2.1.2.2
        have h2l := (cellsT HB.out.2.1).1
        obtain ⟨xr, xk, xt, xn⟩ := x
        subst hr
        clear HS
        go_wp2_with (at_builtin; refine append_oprs rfl (.tmp 22) (.tmp 24) rfl (by have := HB.out.2.2.2.size; simp; omega) ((HB2.out _).lay _).2.2.1 rfl (opr_at ⟨false, xk, xt, xn⟩ (heap_alloc_at _ _ _ (by simp))) rfl (by simp only [List.length_cons, List.length_nil]; omega) ?_; intro v5 w5 h5 hg5 _; obtain ⟨p5, c5, hv5, _⟩ := ownOpr_slice h5; obtain ⟨n5, hn5⟩ : ∃ n, n = (zs ++ [(⟨false, xk, xt, xn⟩ : Opr)]).length := ⟨_, rfl⟩; rw [← hn5] at hv5; subst hv5; clear hn5; obtain ⟨⟨e1, e2⟩, e3⟩ := ((HB2.out _).lay _).app h5 hg5; have H5 := Lib.hid e3; clear h5 hg5 e3)
        go_roundw
        case rel => exact ⟨k + 1, _, zs ++ [⟨false, xk, xt, xn⟩], by go_num, by omega, by simp; omega, HZ2, H5⟩
        case measure => simp [intOf]; omega
    · have HZ2 : Hid (zs = bareL l) := Lib.hid (by rw [HZ.out, List.take_of_length_le (by omega)])
      obtain ⟨pv, cv, rfl, _⟩ := ownOpr_slice HB.out.2.2.1
      have hz := HZ2.out
      subst hz
      obtain ⟨e1, ⟨e2, e3, e4⟩, _⟩ := cellsT HB.out.2.1
      have HE2 : Hid (∀ w', Stored wr (w.heap.size + 1) (boxT id d (.slice pv (bareL l).length cv)) w' → w'.heap[w.heap.size + 1]? = some (boxT id d (.slice pv (bareL l).length cv)) ∧ Post (.returned (.agg #[.int .i64 id, .bool d, .slice pv (bareL l).length cv])) w') := Lib.hid fun w' h => ⟨h.2.2.2.2.1, HE.out _ _ (HB.out.2.2.1.kept (row := some (w.heap.size + 1)) (stored_grown h) (.inr fun e => by have := (HB.out.2.2.1.base _ e).1; omega)) (h.below HB.out.2.2.2 (by omega))⟩
      clear HZ HZ2 HE
      go_wp2_with (refine wpList_store_tx rfl (.tmp 2) (.tmp 28) rfl (w.heap.size + 1) id d pv (bareL l).length cv _ rfl rfl HB.out.1 rfl ?_; intro w4 hst; have HX := Lib.hid (HE2.out _ hst); clear hst)
      exact bodyPost_ret (v := .agg #[.int .i64 id, .bool d, .slice pv (bareL l).length cv]) (results_tx Tryz.results16 _ _ (w.heap.size + 1) id d _ rfl HX.out.1) rfl HX.out.2
/-- On the way to a transaction without its reads, by the document: its box, the result's, what it has. -/
def RI (w wr : World) (id : Int) (d : Bool) (s v : Value) (zs : List Opr) : Prop :=
  wr.heap[w.heap.size]? = some (boxT id d s) ∧ wr.heap[w.heap.size + 1]? = some (boxT 0 false (.slice none 0 0)) ∧ OwnOpr (w.heap.size + 2) wr v zs ∧ Aft w wr
theorem RI.lay {w wr : World} {id : Int} {d : Bool} {s v : Value} {zs : List Opr} (h : RI w wr id d s v zs) (o : Obj) : RI w (wr.alloc o) id d s v zs :=
  ⟨heap_alloc_lt _ _ _ _ h.1, heap_alloc_lt _ _ _ _ h.2.1, h.2.2.1.lay rfl o, h.2.2.2.lay o⟩
theorem RI.app {w wr w' : World} {id : Int} {d : Bool} {s v v' : Value} {zs zs' : List Opr} (h : RI w wr id d s v zs) (ho : OwnOpr (w.heap.size + 2) w' v' zs') (hg : wr.grownBy w' v.ownBlock) : RI w w' id d s v' zs' := by
  have hne : ∀ j, j ≤ w.heap.size + 1 → some j ≠ v.ownBlock := fun j hj e => by have := (h.2.2.1.base j e.symm).1; omega
  exact ⟨(hg.block _ (heap_lt h.1) (hne _ (by omega))).trans h.1, (hg.block _ (heap_lt h.2.1) (hne _ (by omega))).trans h.2.1, ho, Below.grown h.2.2.2 hg h.2.2.2.size (fun k hk => by have := (h.2.2.1.base k hk).1; omega)⟩
theorem fld_ops (id : Int) (d : Bool) (p : Option Addr) (n c : Nat) (w : World) : (Instr.field 24 (.agg #[.int .i64 id, .bool d, .slice p n c]) 2).run Tryz.prog w = .ok (.slice p n c) w := by kernel_rfl
set_option maxRecDepth 100000 in
theorem keys_any {base : Nat} {s : Value} {l : List Opr} (id : Int) (d : Bool) (w : World) (h : Oprs base w s l) (hl : l.length ≤ 100000) : Calls Tryz.prog 11 #[.agg #[.int .i64 id, .bool d, s]] w (OwnNew (keysO (bareL l)) w) := by
  have HB : Hid (∀ o, Calls Tryz.prog 16 #[.agg #[.int .i64 id, .bool d, s]] (w.alloc o) (BareP id d (bareL l) (w.alloc o))) := Lib.hid fun o => bare_any id d (w.alloc o) (h.below ((Below.refl _ _).alloc (Nat.le_refl _) _)) hl
  have HK : Hid (∀ o w1 v1, OwnOpr (w.alloc o).heap.size w1 v1 (bareL l) → Aft (w.alloc o) w1 → Calls Tryz.prog 26 #[v1] w1 fun e w' => ∃ v, e = .returned v ∧ OwnNew (keysO (bareL l)) w (.returned v) w') := Lib.hid fun o w1 v1 h1 h2 => (keysOf_any w1 (h1.list (by have := bareL_len l; omega)) (by have := bareL_len l; omega)).mono fun e w' ⟨v, e1, e2, e3⟩ => ⟨v, e1, v, rfl, by
    refine ⟨e2.1, ?_⟩
    rcases e2.2 with hn | ⟨g, cap, cur, hv, hB, rest⟩
    · exact .inl hn
    · exact .inr ⟨g, cap, cur, hv, Nat.le_trans ((Aft.one o).trans h2).size hB, rest⟩, ((Aft.one o).trans h2).trans e3⟩
  obtain ⟨p, c, rfl, _, _⟩ := h.open_
  generalize OwnNew (keysO (bareL l)) w = Post at HK ⊢
  clear h
  have hfl := fld_ops
  go_enter Tryz.func11, Tryz.ntmps11
  go_wp2_with (first
    | (go_at_call 16; refine (HB.out _).mono ?_; rintro e w1 ⟨v1, rfl, h1, h2⟩; obtain ⟨p1, c1, hv1, _⟩ := ownOpr_slice h1; subst hv1; have H1 := Lib.hid h1; have H2 := Lib.hid h2; clear h1 h2)
    | (go_at_call 26; refine (HK.out _ _ _ H1.out H2.out).mono ?_; rintro e w2 ⟨v2, rfl, h1⟩; have H3 := Lib.hid h1; clear h1))
  exact H3.out
end Go.Proofs.YtaogofjnpnheeaaGreatDoor.Tx
