/-
  Contract of shifted: the walk. Not a statement of the seat.
-/
import Derived.Test.YtmgkpabagpgilaaHead18
namespace Go.Proofs.Ytmgkpabagpgilaa.Dg
open Go.ChangeShapes Go.WideShapes Go.ChangeAt Go.RowKit Base F Tx Hi Off Lst
theorem aft_set {w W : World} (h : Aft w W) {g j : Nat} {x : Value} (hg : w.heap.size ≤ g) : Aft w (W.setCell ⟨g, j, none⟩ x) :=
  ⟨h.os, h.tape, h.output, by simpa [World.setCell] using h.size, fun k hk => (Below.heap_setCell _ _ _ _ (by show k ≠ g; omega)).trans (h.block k hk)⟩
theorem JN.below {w wr wr' : World} {id : Int} {d : Bool} {v : Value} {zs : List Opr} (h : JN w wr id d v zs) (hb : Aft wr wr') : JN w wr' id d v zs := ⟨(hb.block _ (heap_lt h.1)).trans h.1, h.2.1.below hb, h.2.2.trans hb⟩
/-- What is asked of a history that is shifted. -/
structure ShOk (a b : Int) (h : Hist) : Prop where
  a0 : 0 ≤ a ∧ a ≤ 40000
  b0 : 0 ≤ b ∧ b ≤ 40000
  low : lowH 1000000 h
  ops : ∀ t ∈ h.txs, t.ops.length ≤ 10000 ∧ ∀ o ∈ t.ops, okO o
  ids : ∀ o ∈ h.ords, (0 ≤ o.key ∧ o.key ≤ 2000000) ∧ o.txs.length ≤ 10000 ∧ ∀ y ∈ o.txs, 0 ≤ y ∧ y ≤ 2000000
  num : h.txs.length ≤ 100000 ∧ h.ords.length ≤ 100000
theorem sh_take (a b : Int) (l : List Opr) (k : Nat) (h : k < l.length) : (l.take (k + 1)).map (shO a b) = (l.take k).map (shO a b) ++ [shO a b (l.getD k Opr.zero)] := by
  rw [take_snoc l Opr.zero k h, List.map_append]
  rfl
theorem ints_at {w : World} {p : Option Addr} {n c : Nat} {l : List Int} (h : Ints 0 w (.slice p n c) l) {j : Nat} (hj : j < l.length) : ∃ g o, p = some ⟨g, o, none⟩ ∧ g < w.heap.size ∧ w.cell? ⟨g, o + j, none⟩ = some (.int .i64 (l.getD j 0)) := by
  rcases h with ⟨_, h0⟩ | ⟨g, o, c', hv, _, hg, _, hc⟩
  · rw [h0] at hj; simp at hj
  · injection hv with e1 _ _
    exact ⟨g, o, e1, hg, hc j hj⟩
set_option maxRecDepth 100000 in
set_option maxHeartbeats 32000000 in
theorem shifted_any {v u : Value} {h : Hist} {a b : Int} (w : World) (hh : HistV w v u h) (hs : ShOk a b h) : Calls Try.prog 8 #[.agg #[v, u], .int .i64 a, .int .i64 b] w (ShP a b h w) := by
  obtain ⟨p, c, hv, _⟩ := hh.1.form
  obtain ⟨q, d, hu, _⟩ := hh.2.form
  subst hv hu
  have HT : Hid (Txs w (.slice p h.txs.length c) h.txs) := Lib.hid hh.1
  have HO : Hid (Ords w (.slice q h.ords.length d) h.ords) := Lib.hid hh.2
  have HS := Lib.hid hs
  have HE : Hid (∀ v' u' zs ys w1 w', DO w w1 v' u' zs (h.txs.map (shT a b)) ys (h.ords.map (shR a b)) → Stored w1 (w.heap.size + 1) (boxHi v' u') w' → w'.heap[w.heap.size + 1]? = some (boxHi v' u') ∧ ShP a b h w (.returned (.agg #[v', u'])) w') := Lib.hid fun v' u' zs ys w1 w' h1 h2 => h1.back h2 hs.num
  have ha := hs.a0
  have hb := hs.b0
  have hl := hs.num.1
  have hl2 := hs.num.2
  clear hh hs
  generalize ShP a b h w = Post at HE ⊢
  obtain ⟨xs, hxs⟩ : ∃ l, l = h.txs := ⟨_, rfl⟩
  obtain ⟨os, hos⟩ : ∃ l, l = h.ords := ⟨_, rfl⟩
  have HXO : Hid (∀ t ∈ xs, (1 ≤ t.id ∧ t.id ≤ 1000000) ∧ t.ops.length ≤ 10000 ∧ ∀ o ∈ t.ops, okO o) := Lib.hid fun t ht => ⟨(HS.out.low t (hxs ▸ ht)).1, HS.out.ops t (hxs ▸ ht)⟩
  have HOI : Hid (∀ o ∈ os, (0 ≤ o.key ∧ o.key ≤ 2000000) ∧ o.txs.length ≤ 10000 ∧ ∀ y ∈ o.txs, 0 ≤ y ∧ y ≤ 2000000) := Lib.hid fun o ho => HS.out.ids o (hos ▸ ho)
  rw [← hxs] at hl HT HE ⊢
  rw [← hos] at hl2 HO HE ⊢
  clear hxs hos HS
  go_enter Try.func8, Try.ntmps8
  go_wp2
  go_loopw [21] (fun s21 wr => ∃ (k : Nat) (v : Value) (zs : List Txc), s21 = .int .i64 (k : Int) ∧ k ≤ xs.length ∧ zs.length = k ∧ wr.heap[w.heap.size]? = some (boxHi (.slice p xs.length c) (.slice q os.length d)) ∧ Hid (DI w wr (.slice none 0 0) v zs ((xs.take k).map (shT a b)))) (fun s21 _ => xs.length - (intOf s21).toNat)
  case atStart => exact ⟨0, .slice none 0 0, [], rfl, Nat.zero_le _, rfl, heap_alloc_lt _ _ _ _ (heap_alloc_lt _ _ _ _ (heap_alloc_at _ _ _ rfl)), Lib.hid ⟨heap_alloc_lt _ _ _ _ (heap_alloc_at _ _ _ (by simp)), heap_alloc_at _ _ _ (by simp), World.ownsRow_nil _ _ _ _, ⟨rfl, fun k hk => absurd hk (by simp)⟩, ((Aft.one _).lay _).lay _⟩⟩
  case round =>
    obtain ⟨k, v, zs, rfl, hk, hzk, hbh, HD⟩ := hrel
    have HBH := Lib.hid hbh
    clear hbh
    obtain ⟨wA, hwA⟩ : ∃ wA, wA = wr := ⟨_, rfl⟩
    subst hwA
    by_cases hlt : k < xs.length
    · obtain ⟨g, o, sp, sc, rfl, hg, c0, c1, c2, hs⟩ := HT.out.at_ hlt
      have hAw := HD.out.2.2.2.2
      have c0 := hAw.cell hg c0
      have c1 := hAw.cell hg c1
      have c2 := hAw.cell hg c2
      have hs := hs.below hAw
      have hg := Nat.lt_of_lt_of_le hg hAw.size
      have hkI : (k : Int) < (xs.length : Int) := by omega
      have HSN : Hid ((xs.take (k + 1)).map (shT a b) = (xs.take k).map (shT a b) ++ [shT a b (xs.getD k Txn.zero)]) := Lib.hid (by rw [take_snoc xs Txn.zero k hlt, List.map_append]; rfl)
      obtain ⟨⟨i0, i1⟩, hlk, hok⟩ := HXO.out _ (getD_mem' Txn.zero hlt)
      have HOK := Lib.hid hok
      generalize xs.getD k Txn.zero = t at c0 c1 c2 hs HSN hlk HOK i0 i1
      obtain ⟨ti, td, l⟩ := t
      dsimp only at c0 c1 c2 hs hlk HOK i0 i1
      have HC := Lib.hid hs.2
      obtain ⟨ln, hln⟩ : ∃ n, n = l.length := ⟨_, rfl⟩
      have HLN := Lib.hid hln
      have hl10 : ln ≤ 10000 := by omega
      rw [← hln] at c2 HC
      clear hs hAw hln hlk hok
      have HJ0 : Hid (∀ o, JN wA ((wA.alloc o).alloc (boxT (ti + a) td (.slice none 0 0))) (ti + a) td (.slice none 0 0) []) := Lib.hid fun o => ⟨heap_alloc_at _ _ _ (by simp), OwnOpr.nil _ _, (Aft.one _).lay _⟩
      unfold boxT at HJ0
      go_wp2
      go_loopw [35] (fun s35 wi => ∃ (j : Nat) (z : Value) (ys : List Opr), s35 = .int .i64 (j : Int) ∧ j ≤ ln ∧ ys.length = j ∧ Hid (ys = (l.take j).map (shO a b)) ∧ Hid (JN wA wi (ti + a) td z ys)) (fun s35 _ => ln - (intOf s35).toNat)
      case atStart => exact ⟨0, _, [], rfl, Nat.zero_le _, rfl, Lib.hid rfl, Lib.hid (HJ0.out _)⟩
      case round =>
        clear HJ0
        obtain ⟨j, z, ys, rfl, hj, hyl, HY, HJ⟩ := hrel
        obtain ⟨wi, hwi⟩ : ∃ wi, wi = wr := ⟨_, rfl⟩
        subst hwi
        by_cases hjt : j < ln
        · obtain ⟨p2, cc2, he2, _, hat⟩ := HC.out.open_
          injection he2 with e1 e2 e3
          subst e1 e3
          obtain ⟨g', o', rfl, _, hg', d0, d1, d2, d3⟩ := hat j (by have := HLN.out; omega)
          have d0 := HJ.out.2.2.cell hg' d0
          have d1 := HJ.out.2.2.cell hg' d1
          have d2 := HJ.out.2.2.cell hg' d2
          have d3 := HJ.out.2.2.cell hg' d3
          have hg' := Nat.lt_of_lt_of_le hg' HJ.out.2.2.size
          have hjI : (j : Int) < (ln : Int) := by omega
          have HS : Hid ((l.take (j + 1)).map (shO a b) = ys ++ [shO a b (l.getD j Opr.zero)]) := Lib.hid (by rw [sh_take a b l j (by have := HLN.out; omega), HY.out])
          have hokx := HOK.out _ (getD_mem' Opr.zero (show j < l.length by have := HLN.out; omega))
          clear hat e2 HY
          generalize l.getD j Opr.zero = x at d0 d1 d2 d3 HS hokx
          have HJL : Hid (j < ln ∧ ys.length = j) := Lib.hid ⟨hjt, hyl⟩
          have HJ2 : Hid (∀ o, JN wA (wi.alloc o) (ti + a) td z ys) := Lib.hid fun o => HJ.out.lay o
          have h2 := (cellsT HJ.out.1).2.1.2.2
          have h2l := (cellsT HJ.out.1).1
          obtain ⟨xr, xk, xt, xn⟩ := x
          obtain ⟨k1, k2, k3⟩ := hokx
          cases xr with
          | true =>
            obtain ⟨r0, ⟨r1, r2⟩, r3⟩ := read_bd k1 rfl
            have r4 := k3 rfl
            clear k1 k3
            dsimp only at k2 r0 r1 r2 r3 r4
            by_cases hz : xt = 0
            · subst hz
              have HZ2 : Hid (ys ++ [(⟨true, xk + b, 0, xn⟩ : Opr)] = (l.take (j + 1)).map (shO a b)) := Lib.hid (by rw [HS.out]; rfl)
              clear HS r3
              go_wp2_with (at_builtin; (refine append_oprs rfl (.tmp 57) (.tmp 59) rfl ((HJ2.out _).room _) ((HJ2.out _).lay _).2.1 rfl (opr_at (⟨true, xk + b, 0, xn⟩ : Opr) (heap_alloc_at _ _ _ (by simp))) rfl (by have := HJL.out.2; simp only [List.length_cons, List.length_nil]; omega) ?_; intro v5 w5 h5 hg5 _; obtain ⟨p5, c5, hv5, _⟩ := ownOpr_slice h5; obtain ⟨n5, hn5⟩ : ∃ n, n = (ys ++ [(⟨true, xk + b, 0, xn⟩ : Opr)]).length := ⟨_, rfl⟩; rw [← hn5] at hv5; subst hv5; clear hn5; obtain ⟨⟨e1, e2⟩, e3⟩ := ((HJ2.out _).lay _).app h5 hg5; have H5 := Lib.hid e3; clear h5 hg5 e3))
              obtain ⟨jl, yl⟩ := HJL.out
              go_roundw
              case rel => exact ⟨j + 1, _, _, by go_num, by omega, by simp only [List.length_append, List.length_cons, List.length_nil]; omega, HZ2, H5⟩
              case measure => simp [intOf]; omega
            · have HZ2 : Hid (ys ++ [(⟨true, xk + b, xt + a, xn⟩ : Opr)] = (l.take (j + 1)).map (shO a b)) := Lib.hid (by rw [HS.out]; unfold shO; rw [if_pos ⟨rfl, hz⟩])
              clear HS r3
              go_wp2_with (at_builtin; (refine append_oprs rfl (.tmp 57) (.tmp 59) rfl ((HJ2.out _).room _) ((HJ2.out _).lay _).2.1 rfl (opr_at (⟨true, xk + b, xt + a, xn⟩ : Opr) (heap_alloc_at _ _ _ (by simp))) rfl (by have := HJL.out.2; simp only [List.length_cons, List.length_nil]; omega) ?_; intro v5 w5 h5 hg5 _; obtain ⟨p5, c5, hv5, _⟩ := ownOpr_slice h5; obtain ⟨n5, hn5⟩ : ∃ n, n = (ys ++ [(⟨true, xk + b, xt + a, xn⟩ : Opr)]).length := ⟨_, rfl⟩; rw [← hn5] at hv5; subst hv5; clear hn5; obtain ⟨⟨e1, e2⟩, e3⟩ := ((HJ2.out _).lay _).app h5 hg5; have H5 := Lib.hid e3; clear h5 hg5 e3))
              obtain ⟨jl, yl⟩ := HJL.out
              go_roundw
              case rel => exact ⟨j + 1, _, _, by go_num, by omega, by simp only [List.length_append, List.length_cons, List.length_nil]; omega, HZ2, H5⟩
              case measure => simp [intOf]; omega
          | false =>
            obtain ⟨r1, r2, r3, _⟩ := Op.right_w k1 rfl
            clear k1 k3
            dsimp only at k2 r1 r2 r3
            have HZ2 : Hid (ys ++ [(⟨false, xk + b, xt, xn⟩ : Opr)] = (l.take (j + 1)).map (shO a b)) := Lib.hid (by rw [HS.out]; rfl)
            clear HS r3
            go_wp2_with (at_builtin; (refine append_oprs rfl (.tmp 57) (.tmp 59) rfl ((HJ2.out _).room _) ((HJ2.out _).lay _).2.1 rfl (opr_at (⟨false, xk + b, xt, xn⟩ : Opr) (heap_alloc_at _ _ _ (by simp))) rfl (by have := HJL.out.2; simp only [List.length_cons, List.length_nil]; omega) ?_; intro v5 w5 h5 hg5 _; obtain ⟨p5, c5, hv5, _⟩ := ownOpr_slice h5; obtain ⟨n5, hn5⟩ : ∃ n, n = (ys ++ [(⟨false, xk + b, xt, xn⟩ : Opr)]).length := ⟨_, rfl⟩; rw [← hn5] at hv5; subst hv5; clear hn5; obtain ⟨⟨e1, e2⟩, e3⟩ := ((HJ2.out _).lay _).app h5 hg5; have H5 := Lib.hid e3; clear h5 hg5 e3))
            obtain ⟨jl, yl⟩ := HJL.out
            go_roundw
            case rel => exact ⟨j + 1, _, _, by go_num, by omega, by simp only [List.length_append, List.length_cons, List.length_nil]; omega, HZ2, H5⟩
            case measure => simp [intOf]; omega
        · have hZ : ys = l.map (shO a b) := by rw [HY.out, List.take_of_length_le (by have := HLN.out; omega)]
          obtain ⟨pz, cz, rfl, _⟩ := ownOpr_slice HJ.out.2.1
          obtain ⟨yn, hyn⟩ : ∃ n, n = ys.length := ⟨_, rfl⟩
          rw [← hyn] at HJ
          have HDW : Hid (DI w wi (.slice none 0 0) v zs ((xs.take k).map (shT a b))) := Lib.hid (HD.out.below HJ.out.2.2)
          have HBW : Hid (wi.heap[w.heap.size]? = some (boxHi (.slice (some ⟨g, o, none⟩) xs.length c) (.slice q os.length d))) := Lib.hid ((HJ.out.2.2.block _ (heap_lt HBH.out)).trans HBH.out)
          have HRM : Hid (w.heap.size + 3 ≤ wA.heap.size) := Lib.hid (by have := heap_lt HD.out.2.1; omega)
          have HDA : Hid (∀ o' v5 w5, OwnTxc (w.heap.size + 3) w5 v5 (zs ++ [(⟨ti + a, td, (pz, yn, cz)⟩ : Txc)]) → (wi.alloc o').grownBy w5 v.ownBlock → (w5.cell? ⟨w.heap.size + 1 + 1, 0, none⟩ = some v ∧ w5.frozen? ⟨w.heap.size + 1 + 1, 0, none⟩ = false) ∧ DI w (w5.setCell ⟨w.heap.size + 1 + 1, 0, none⟩ v5) (.slice none 0 0) v5 (zs ++ [(⟨ti + a, td, (pz, yn, cz)⟩ : Txc)]) ((xs.take (k + 1)).map (shT a b)) ∧ (w5.setCell ⟨w.heap.size + 1 + 1, 0, none⟩ v5).heap[w.heap.size]? = some (boxHi (.slice (some ⟨g, o, none⟩) xs.length c) (.slice q os.length d))) := Lib.hid fun o' v5 w5 h5 hg5 => by
            have h6 : _ ∧ _ := (HDW.out.lay o').app (c := ⟨ti + a, td, (pz, yn, cz)⟩) (t := shT a b ⟨ti, td, l⟩) rfl rfl (by
              show OwnOpr _ _ (.slice pz yn cz) (l.map (shO a b))
              rw [← hZ]
              exact ownOpr_mono (HJ.out.lay o').2.1 (by have := HRM.out; omega)) h5 hg5
            rw [HSN.out]
            refine ⟨h6.1, h6.2, (Below.heap_setCell _ _ _ _ (by show w.heap.size ≠ w.heap.size + 1 + 1; omega)).trans ((hg5.block _ (Nat.lt_of_lt_of_le (heap_lt HBW.out) (by simp)) (fun e => by have := (World.ownsRow.lt HDW.out.2.2.1 _ e.symm).1; omega)).trans (heap_alloc_lt _ _ _ _ HBW.out))⟩
          have HKL : Hid (k < xs.length ∧ zs.length = k) := Lib.hid ⟨hlt, hzk⟩
          have h2 := (cellsHi HDW.out.2.1).2.1.1
          have h2l := (cellsHi HDW.out.2.1).1
          obtain ⟨e1l, ⟨e1, e2, e3⟩, _⟩ := cellsT HJ.out.1
          clear HY hZ HSN HC c0 c1 c2 hg hyl hyn hzk
          go_wp2_with (at_builtin; (refine append_txcs rfl (.tmp 64) (.tmp 66) rfl (HDW.out.room _) (HDW.out.lay _).2.2.1 rfl (txc_at ⟨ti + a, td, (pz, yn, cz)⟩ (heap_alloc_at _ _ _ rfl)) rfl (by have := HKL.out.2; simp only [List.length_cons, List.length_nil]; omega) ?_; intro v5 w5 h5 hg5 _; obtain ⟨p5, c5, hv5, _⟩ := ownTxc_slice h5; obtain ⟨n5, hn5⟩ : ∃ n, n = (zs ++ [(⟨ti + a, td, (pz, yn, cz)⟩ : Txc)]).length := ⟨_, rfl⟩; rw [← hn5] at hv5; subst hv5; clear hn5; obtain ⟨⟨f1, f2⟩, f3⟩ := HDA.out _ _ _ h5 hg5; have H5 := Lib.hid f3; clear h5 hg5 f3))
          obtain ⟨kl, zl⟩ := HKL.out
          go_roundw
          case rel => exact ⟨k + 1, _, _, by go_num, by omega, by simp only [List.length_append, List.length_cons, List.length_nil]; omega, H5.out.2, Lib.hid H5.out.1⟩
          case measure => simp [intOf]; omega
    · have hke : xs.take k = xs := List.take_of_length_le (by omega)
      rw [hke] at HD
      obtain ⟨pv, cv, rfl, _⟩ := ownTxc_slice HD.out.2.2.1
      obtain ⟨zn, hzn⟩ : ∃ n, n = zs.length := ⟨_, rfl⟩
      rw [← hzn] at HD
      have HZN : Hid (zs.length ≤ 100000) := Lib.hid (by omega)
      obtain ⟨b1, ⟨b2, b3⟩, _⟩ := cellsHi HBH.out
      have HDO : Hid (DO w wA (.slice pv zn cv) (.slice none 0 0) zs (xs.map (shT a b)) [] ((os.take 0).map (shR a b))) := Lib.hid ⟨HD.out, World.ownsRow_nil _ _ _ _, ⟨rfl, fun k hk => absurd hk (by simp)⟩⟩
      have hko : os.length ≤ 100000 := hl2
      clear HD hzn hzk hke HT HXO HBH
      go_wp2_with fail
      go_loopw [73] (fun s73 wr => ∃ (k : Nat) (u : Value) (ys : List Orc), s73 = .int .i64 (k : Int) ∧ k ≤ os.length ∧ ys.length = k ∧ Hid (DO w wr (.slice pv zn cv) u zs (xs.map (shT a b)) ys ((os.take k).map (shR a b)))) (fun s73 _ => os.length - (intOf s73).toNat)
      case atStart => exact ⟨0, _, [], rfl, Nat.zero_le _, rfl, HDO⟩
      case round =>
        clear HDO b1 b2 b3
        obtain ⟨k, u, ys, rfl, hk, hyk, HD⟩ := hrel
        obtain ⟨wA, hwA⟩ : ∃ wA, wA = wr := ⟨_, rfl⟩
        subst hwA
        by_cases hlt : k < os.length
        · obtain ⟨g, o, sp, sc, rfl, hg, c0, c1, hs⟩ := HO.out.at_ hlt
          have hAw := HD.out.1.2.2.2.2
          have c0 := hAw.cell hg c0
          have c1 := hAw.cell hg c1
          have hs := hs.below hAw
          have hg := Nat.lt_of_lt_of_le hg hAw.size
          have hkI : (k : Int) < (os.length : Int) := by omega
          have HSN : Hid ((os.take (k + 1)).map (shR a b) = (os.take k).map (shR a b) ++ [shR a b (os.getD k Ordr.zero)]) := Lib.hid (by rw [take_snoc os Ordr.zero k hlt, List.map_append]; rfl)
          obtain ⟨⟨i0, i1⟩, hlk, hok⟩ := HOI.out _ (getD_mem' Ordr.zero hlt)
          have HOK := Lib.hid hok
          generalize os.getD k Ordr.zero = t at c0 c1 hs HSN hlk HOK i0 i1
          obtain ⟨ti, l⟩ := t
          dsimp only at c0 c1 hs hlk HOK i0 i1
          have HC := Lib.hid hs.2
          obtain ⟨ln, hln⟩ : ∃ n, n = l.length := ⟨_, rfl⟩
          have HLN := Lib.hid hln
          have hl10 : ln ≤ 10000 := by omega
          rw [← hln] at c1 HC
          clear hs hAw hln hlk hok
          have HJ0 : Hid (∀ o, KN wA ((wA.alloc o).alloc (boxR (ti + b) (.slice none 0 0))) (ti + b) (.slice none 0 0) []) := Lib.hid fun o => ⟨heap_alloc_at _ _ _ (by simp), OwnI.nil _ _, (Aft.one _).lay _⟩
          unfold boxR at HJ0
          go_wp2
          go_loopw [17, 85] (fun _ s85 wi => ∃ (j : Nat) (z : Value) (ys : List Int), s85 = .int .i64 (j : Int) ∧ j ≤ ln ∧ ys.length = j ∧ Hid (ys = (l.take j).map (· + a)) ∧ Hid (KN wA wi (ti + b) z ys)) (fun _ s85 _ => ln - (intOf s85).toNat)
          case atStart => exact ⟨0, _, [], rfl, Nat.zero_le _, rfl, Lib.hid rfl, Lib.hid (HJ0.out _)⟩
          case round =>
            clear HJ0
            obtain ⟨j, z, ns, rfl, hj, hyl, HY, HJ⟩ := hrel
            obtain ⟨wi, hwi⟩ : ∃ wi, wi = wr := ⟨_, rfl⟩
            subst hwi
            by_cases hjt : j < ln
            · obtain ⟨g', o', rfl, hg', d0⟩ := ints_at HC.out (show j < l.length by have := HLN.out; omega)
              have d0 := HJ.out.2.2.cell hg' d0
              have hg' := Nat.lt_of_lt_of_le hg' HJ.out.2.2.size
              have hjI : (j : Int) < (ln : Int) := by omega
              have HZ2 : Hid (ns ++ [l.getD j 0 + a] = (l.take (j + 1)).map (· + a)) := Lib.hid (by rw [take_snoc l 0 j (by have := HLN.out; omega), List.map_append, ← HY.out]; rfl)
              obtain ⟨y0, y1⟩ := HOK.out _ (getD_mem' 0 (show j < l.length by have := HLN.out; omega))
              clear HY
              generalize l.getD j 0 = x at d0 HZ2 y0 y1
              have HJL : Hid (j < ln ∧ ns.length = j) := Lib.hid ⟨hjt, hyl⟩
              have HJ2 : Hid (∀ o, KN wA (wi.alloc o) (ti + b) z ns) := Lib.hid fun o => HJ.out.lay o
              have h2 := (cellsR HJ.out.1).2.1.2
              have h2l := (cellsR HJ.out.1).1
              go_wp2_with (at_builtin; (refine append_ints rfl (.tmp 90) (.tmp 94) rfl (HJ.out.room _) (HJ2.out _).2.1 rfl (int_at (x + a) (heap_alloc_at _ _ _ rfl)) (fun n c e => by cases e) rfl (by have := HJL.out.2; simp only [List.length_cons, List.length_nil]; omega) ?_; intro v5 w5 h5 hg5 _; obtain ⟨p5, c5, hv5, _⟩ := ownI_slice h5; obtain ⟨n5, hn5⟩ : ∃ n, n = (ns ++ [x + a]).length := ⟨_, rfl⟩; rw [← hn5] at hv5; subst hv5; clear hn5; obtain ⟨⟨e1, e2⟩, e3⟩ := (HJ2.out _).app h5 hg5; have H5 := Lib.hid e3; clear h5 hg5 e3))
              obtain ⟨jl, yl⟩ := HJL.out
              go_roundw
              case rel => exact ⟨j + 1, _, _, by go_num, by omega, by simp only [List.length_append, List.length_cons, List.length_nil]; omega, HZ2, H5⟩
              case measure => simp [intOf]; omega
            · have hZ : ns = l.map (· + a) := by rw [HY.out, List.take_of_length_le (by have := HLN.out; omega)]
              obtain ⟨pz, cz, rfl, _⟩ := ownI_slice HJ.out.2.1
              obtain ⟨yn, hyn⟩ : ∃ n, n = ns.length := ⟨_, rfl⟩
              rw [← hyn] at HJ
              have HDW : Hid (DO w wi (.slice pv zn cv) u zs (xs.map (shT a b)) ys ((os.take k).map (shR a b))) := Lib.hid (HD.out.below HJ.out.2.2)
              have HRM : Hid (w.heap.size + 3 ≤ wA.heap.size) := Lib.hid (by have := heap_lt HD.out.1.2.1; omega)
              have HDA : Hid (∀ o' v5 w5, OwnOrc (w.heap.size + 3) w5 v5 (ys ++ [(⟨ti + b, (pz, yn, cz)⟩ : Orc)]) → (wi.alloc o').grownBy w5 u.ownBlock → (w5.cell? ⟨w.heap.size + 1 + 1, 1, none⟩ = some u ∧ w5.frozen? ⟨w.heap.size + 1 + 1, 1, none⟩ = false) ∧ DO w (w5.setCell ⟨w.heap.size + 1 + 1, 1, none⟩ v5) (.slice pv zn cv) v5 zs (xs.map (shT a b)) (ys ++ [(⟨ti + b, (pz, yn, cz)⟩ : Orc)]) ((os.take (k + 1)).map (shR a b))) := Lib.hid fun o' v5 w5 h5 hg5 => by
                rw [HSN.out]
                exact (HDW.out.lay o').app (c := ⟨ti + b, (pz, yn, cz)⟩) (t := shR a b ⟨ti, l⟩) rfl (by
                  show OwnI _ _ (.slice pz yn cz) (l.map (· + a))
                  rw [← hZ]
                  exact ownI_mono (HJ.out.lay o').2.1 (by have := HRM.out; omega)) h5 hg5
              have HKL : Hid (k < os.length ∧ ys.length = k) := Lib.hid ⟨hlt, hyk⟩
              have h2 := (cellsHi HDW.out.1.2.1).2.1.2
              have h2l := (cellsHi HDW.out.1.2.1).1
              obtain ⟨e1l, ⟨e1, e2⟩, _⟩ := cellsR HJ.out.1
              clear HY hZ HSN HC c0 c1 hg hyl hyn hyk
              go_wp2_with (at_builtin; (refine append_orcs rfl (.tmp 99) (.tmp 101) rfl (HDW.out.1.room _) (HDW.out.lay _).2.1 rfl (orc_at ⟨ti + b, (pz, yn, cz)⟩ (heap_alloc_at _ _ _ rfl)) rfl (by have := HKL.out.2; simp only [List.length_cons, List.length_nil]; omega) ?_; intro v5 w5 h5 hg5 _; obtain ⟨p5, c5, hv5, _⟩ := ownOrc_slice h5; obtain ⟨n5, hn5⟩ : ∃ n, n = (ys ++ [(⟨ti + b, (pz, yn, cz)⟩ : Orc)]).length := ⟨_, rfl⟩; rw [← hn5] at hv5; subst hv5; clear hn5; obtain ⟨⟨f1, f2⟩, f3⟩ := HDA.out _ _ _ h5 hg5; have H5 := Lib.hid f3; clear h5 hg5 f3))
              obtain ⟨kl, zl⟩ := HKL.out
              go_roundw
              case rel => exact ⟨k + 1, _, _, by go_num, by omega, by simp only [List.length_append, List.length_cons, List.length_nil]; omega, H5⟩
              case measure => simp [intOf]; omega
        · have hke : os.take k = os := List.take_of_length_le (by omega)
          rw [hke] at HD
          obtain ⟨pu, cu, rfl, _⟩ := ownOrc_slice HD.out.2.1
          obtain ⟨un, hun⟩ : ∃ n, n = ys.length := ⟨_, rfl⟩
          rw [← hun] at HD
          obtain ⟨e1, ⟨e2, e3⟩, _⟩ := cellsHi HD.out.1.2.1
          have HE2 : Hid (∀ w', Stored wA (w.heap.size + 1) (boxHi (.slice pv zn cv) (.slice pu un cu)) w' → w'.heap[w.heap.size + 1]? = some (boxHi (.slice pv zn cv) (.slice pu un cu)) ∧ Post (.returned (.agg #[.slice pv zn cv, .slice pu un cu])) w') := Lib.hid fun w' h => HE.out _ _ _ _ _ _ HD.out h
          have HB0 := Lib.hid HD.out.1.1
          clear HE HD hun hyk hke
          go_wp2_with (refine wpList_store_hi rfl (.tmp 6) (.tmp 105) rfl (w.heap.size + 1) pv zn cv pu un cu _ rfl rfl HB0.out rfl ?_; intro w4 hst; have HX := Lib.hid (HE2.out _ hst); clear hst)
          exact bodyPost_ret (v := .agg #[.slice pv zn cv, .slice pu un cu]) (results_hi Try.results8 _ _ (w.heap.size + 1) _ _ rfl HX.out.1) rfl HX.out.2
end Go.Proofs.Ytmgkpabagpgilaa.Dg
