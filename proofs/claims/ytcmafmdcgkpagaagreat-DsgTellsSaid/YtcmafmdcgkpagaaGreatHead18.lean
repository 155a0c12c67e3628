/-
  Contracts of small functions, several texts laid into one. Not a statement of the seat.
-/
import Derived.Test.YtcmafmdcgkpagaaGreatHead16
import Derived.Test.YtcmafmdcgkpagaaGreatHead13
import Derived.Test.YtcmafmdcgkpagaaGreatHead17
import Derived.Test.YtcmafmdcgkpagaaGreatHiR3
namespace Go.Proofs.YtcmafmdcgkpagaaGreat.Dg
open Go.ChangeShapes Go.WideShapes Go.ChangeAt Go.RowKit Base F Tx Hi
open Pk (OwnE)
set_option maxRecDepth 100000 in
set_option maxHeartbeats 4000000 in
theorem rplain_any {base : Nat} {v : Value} {l : List Hvy} (w : World) (h : Hvys base w v l) (hl : l.length ≤ 1000000) : Calls Tryz.prog 15 #[v] w (PlP l w) := by
  obtain ⟨p, c, rfl, _, hc⟩ := h.open_
  have HC := Lib.hid hc
  have HE : Hid (∀ u W, OwnE w.heap.size W u (l.map fun x => toE (edH x)) → Aft w W → PlP l w (.returned u) W) := Lib.hid fun u W h1 h2 => ⟨u, rfl, h1, h2⟩
  generalize PlP l w = Post at HE ⊢
  obtain ⟨n, hn⟩ : ∃ n, n = l.length := ⟨_, rfl⟩
  have HN := Lib.hid hn
  rw [← hn] at HC hl ⊢
  clear h hc hn
  go_enter Tryz.func15, Tryz.ntmps15
  go_wp2_with fail
  go_loopw [3, 8] (fun s3 s8 wr => ∃ k : Nat, s8 = .int .i64 (k : Int) ∧ k ≤ n ∧ ∃ u, u = s3 ∧ Hid (OwnE w.heap.size wr u ((l.take k).map fun x => toE (edH x)) ∧ Aft w wr)) (fun _ s8 _ => n - (intOf s8).toNat)
  case atStart => exact ⟨0, rfl, Nat.zero_le _, _, rfl, Lib.hid ⟨OwnE.nil _ _, Aft.refl _⟩⟩
  case round =>
    obtain ⟨k, rfl, hk, u, hu, HS⟩ := hrel
    subst hu
    obtain ⟨wA, hwA⟩ : ∃ wA, wA = wr := ⟨_, rfl⟩
    subst hwA
    by_cases hlt : k < n
    · obtain ⟨g, o, rfl, _, hg, c0, c1, c2, c3, c4⟩ := HC.out k hlt
      have ha := HS.out.2
      have c0 := ha.cell hg c0
      have c1 := ha.cell hg c1
      have c2 := ha.cell hg c2
      have c3 := ha.cell hg c3
      have c4 := ha.cell hg c4
      have hg := Nat.lt_of_lt_of_le hg ha.size
      have hkI : (k : Int) < (n : Int) := by omega
      have HT : Hid ((l.take (k + 1)).map (fun x => toE (edH x)) = (l.take k).map (fun x => toE (edH x)) ++ [toE (edH (l.getD k Hvy.zero))]) := Lib.hid (by rw [Tx.take_snoc l Hvy.zero k (by have := HN.out; omega), List.map_append]; rfl)
      have HLN : Hid (((l.take k).map fun x => toE (edH x)).length ≤ 1000000) := Lib.hid (by rw [List.length_map, List.length_take]; omega)
      generalize l.getD k Hvy.zero = x at c0 c1 c2 c3 c4 HT
      obtain ⟨x0, x1, x2, x3, x4⟩ := x
      dsimp only at c0 c1 c2 c3 c4
      have HT : Hid ((l.take (k + 1)).map (fun x => toE (edH x)) = (l.take k).map (fun x => toE (edH x)) ++ [(x0, x1, x2, x3)]) := HT
      obtain ⟨X, hX⟩ : ∃ X, X = wA.alloc (.cells #[.int .i64 x0, .int .i64 x1, .int .i64 x2, .int .i64 x3, .int .i64 x4] 48) := ⟨_, rfl⟩
      have hxb : X.heap[wA.heap.size]? = some (.cells #[.int .i64 x0, .int .i64 x1, .int .i64 x2, .int .i64 x3, .int .i64 x4] 48) := by rw [hX]; exact heap_alloc_at _ _ _ rfl
      have hax : Aft wA X := by rw [hX]; exact Aft.one _
      have HO : Hid (OwnE w.heap.size X u ((l.take k).map fun x => toE (edH x)) ∧ Aft w X) := Lib.hid ⟨HS.out.1.below hax, ha.trans hax⟩
      have d : X.cell? ⟨wA.heap.size, 0, none⟩ = some (.int .i64 x0) ∧ X.cell? ⟨wA.heap.size, 1, none⟩ = some (.int .i64 x1) ∧ X.cell? ⟨wA.heap.size, 2, none⟩ = some (.int .i64 x2) ∧ X.cell? ⟨wA.heap.size, 3, none⟩ = some (.int .i64 x3) := by simp [World.cell?, hxb]
      obtain ⟨d0, d1, d2, d3⟩ := d
      have hxl := heap_lt hxb
      clear ha hxb hax HS
      go_upto_region 5 with fail
      rw [← hX]
      clear hX c0 c1 c2 c3 c4
      go_wp2_with (at_builtin; refine Pk.append_edge rfl (.tmp 12) (.tmp 15) rfl (z := (x0, x1, x2, x3)) (w0 := w) HO.out.2 HO.out.1 rfl rfl rfl HLN.out ?_; intro v5 w5 h5 hb5 _; have HR : Hid (OwnE w.heap.size w5 v5 ((l.take (k + 1)).map fun x => toE (edH x)) ∧ Aft w w5) := Lib.hid ⟨by rw [HT.out]; exact h5, hb5⟩; clear h5 hb5)
      go_roundw
      case rel => exact ⟨k + 1, by go_num, by omega, _, rfl, HR⟩
      case measure => simp [intOf]; omega
    · have hke : k = n := by omega
      have HF : Hid (Post (.returned u) wA) := Lib.hid (HE.out _ _ (by have := HS.out.1; rwa [hke, HN.out, List.take_length] at this) HS.out.2)
      clear HS hke
      go_wp2_with fail
      exact HF.out
def HvL (l : List Hvy) (w : World) (e : Ending) (w' : World) : Prop := ∃ v, e = .returned v ∧ OwnHvy w.heap.size w' v l ∧ Aft w w'
set_option maxRecDepth 100000 in
set_option maxHeartbeats 4000000 in
theorem rof_any {base : Nat} {v : Value} {l : List Hvy} (key : Int) (w : World) (h : Hvys base w v l) (hl : l.length ≤ 1000000) : Calls Tryz.prog 10 #[v, .int .i64 key] w (HvL (l.filter fun x => x.k == key) w) := by
  obtain ⟨p, c, rfl, _, hc⟩ := h.open_
  have HC := Lib.hid hc
  have HE : Hid (∀ u W, OwnHvy w.heap.size W u (l.filter fun x => x.k == key) → Aft w W → HvL (l.filter fun x => x.k == key) w (.returned u) W) := Lib.hid fun u W h1 h2 => ⟨u, rfl, h1, h2⟩
  generalize HvL (l.filter fun x => x.k == key) w = Post at HE ⊢
  obtain ⟨n, hn⟩ : ∃ n, n = l.length := ⟨_, rfl⟩
  have HN := Lib.hid hn
  rw [← hn] at HC hl ⊢
  clear h hc hn
  go_enter Tryz.func10, Tryz.ntmps10
  go_wp2_with fail
  go_loopw [5, 10] (fun s5 s10 wr => ∃ k : Nat, s10 = .int .i64 (k : Int) ∧ k ≤ n ∧ ∃ u, u = s5 ∧ Hid (OwnHvy w.heap.size wr u ((l.take k).filter fun x => x.k == key) ∧ Aft w wr)) (fun _ s10 _ => n - (intOf s10).toNat)
  case atStart => exact ⟨0, rfl, Nat.zero_le _, _, rfl, Lib.hid ⟨OwnHvy.nil _ _, Aft.refl _⟩⟩
  case round =>
    obtain ⟨k, rfl, hk, u, hu, HS⟩ := hrel
    subst hu
    obtain ⟨wA, hwA⟩ : ∃ wA, wA = wr := ⟨_, rfl⟩
    subst hwA
    by_cases hlt : k < n
    · obtain ⟨g, o, rfl, _, hg, c0, c1, c2, c3, c4⟩ := HC.out k hlt
      have ha := HS.out.2
      have c0 := ha.cell hg c0
      have c1 := ha.cell hg c1
      have c2 := ha.cell hg c2
      have c3 := ha.cell hg c3
      have c4 := ha.cell hg c4
      have hg := Nat.lt_of_lt_of_le hg ha.size
      have hkI : (k : Int) < (n : Int) := by omega
      have HT : Hid ((l.take (k + 1)).filter (fun x => x.k == key) = (l.take k).filter (fun x => x.k == key) ++ (if (l.getD k Hvy.zero).k == key then [l.getD k Hvy.zero] else [])) := Lib.hid (by
        rw [Tx.take_snoc l Hvy.zero k (by have := HN.out; omega), List.filter_append]
        congr 1
        by_cases hq : (l.getD k Hvy.zero).k == key
        · rw [if_pos hq]; simp only [List.filter_cons, hq]; rfl
        · rw [if_neg hq]; simp only [List.filter_cons, hq]; rfl)
      have HLN : Hid (((l.take k).filter fun x => x.k == key).length ≤ 999999) := Lib.hid (Nat.le_trans (List.length_filter_le _ _) (by rw [List.length_take]; omega))
      generalize l.getD k Hvy.zero = x at c0 c1 c2 c3 c4 HT
      obtain ⟨x0, x1, x2, x3, x4⟩ := x
      dsimp only at c0 c1 c2 c3 c4 HT
      obtain ⟨X, hX⟩ : ∃ X, X = wA.alloc (.cells #[.int .i64 x0, .int .i64 x1, .int .i64 x2, .int .i64 x3, .int .i64 x4] 48) := ⟨_, rfl⟩
      have hxb : X.heap[wA.heap.size]? = some (.cells #[.int .i64 x0, .int .i64 x1, .int .i64 x2, .int .i64 x3, .int .i64 x4] 48) := by rw [hX]; exact heap_alloc_at _ _ _ rfl
      have hax : Aft wA X := by rw [hX]; exact Aft.one _
      have HO : Hid (OwnHvy w.heap.size X u ((l.take k).filter fun x => x.k == key) ∧ Aft w X) := Lib.hid ⟨HS.out.1.below hax, ha.trans hax⟩
      have d : X.cell? ⟨wA.heap.size, 0, none⟩ = some (.int .i64 x0) ∧ X.cell? ⟨wA.heap.size, 1, none⟩ = some (.int .i64 x1) ∧ X.cell? ⟨wA.heap.size, 2, none⟩ = some (.int .i64 x2) ∧ X.cell? ⟨wA.heap.size, 3, none⟩ = some (.int .i64 x3) ∧ X.cell? ⟨wA.heap.size, 4, none⟩ = some (.int .i64 x4) := by simp [World.cell?, hxb]
      obtain ⟨d0, d1, d2, d3, d4⟩ := d
      have hxl := heap_lt hxb
      clear ha hxb hax HS
      go_upto_region 5 with fail
      rw [← hX]
      clear hX c0 c1 c2 c3 c4
      cases hq : (x3 == key) with
      | false =>
        have HR : Hid (OwnHvy w.heap.size X u ((l.take (k + 1)).filter fun x => x.k == key) ∧ Aft w X) := Lib.hid (by rw [HT.out, hq]; simpa using HO.out)
        clear HT HO
        go_wp2_with fail
        go_roundw
        case rel => exact ⟨k + 1, by go_num, by omega, _, rfl, HR⟩
        case measure => simp [intOf]; omega
      | true =>
        have HT : Hid ((l.take (k + 1)).filter (fun x => x.k == key) = (l.take k).filter (fun x => x.k == key) ++ [⟨x0, x1, x2, x3, x4⟩]) := Lib.hid (by rw [HT.out, hq]; rfl)
        go_wp2_with (at_builtin; refine append_hvys rfl (.tmp 19) (.tmp 21) rfl (B := w.heap.size) (by have := HO.out.2.size; simp only [World.size_alloc]; omega) (HO.out.1.below (Aft.one _)) rfl (hvy_lit ⟨x0, x1, x2, x3, x4⟩ X) rfl (by have := HLN.out; simp only [List.length_cons, List.length_nil]; omega) ?_; intro v5 w5 h5 hg5 _; have HR : Hid (OwnHvy w.heap.size w5 v5 ((l.take (k + 1)).filter fun x => x.k == key) ∧ Aft w w5) := Lib.hid ⟨by rw [HT.out]; exact h5, (HO.out.2.trans (Aft.one _)).grown hg5 (by have := HO.out.2.size; simp only [World.size_alloc]; omega) (fun g e => (HO.out.1.base g e).1)⟩; clear h5 hg5)
        go_roundw
        case rel => exact ⟨k + 1, by go_num, by omega, _, rfl, HR⟩
        case measure => simp [intOf]; omega
    · have hke : k = n := by omega
      have HF : Hid (Post (.returned u) wA) := Lib.hid (HE.out _ _ (by have := HS.out.1; rwa [hke, HN.out, List.take_length] at this) HS.out.2)
      clear HS hke
      go_wp2_with fail
      exact HF.out
/-- What keys holds. -/
def KI (w : World) (ks : List Int) (v : Value) (wr : World) : Prop := Lst.Ints 0 wr v (keysL ks) ∧ Aft w wr
theorem keysL_snoc (ks : List Int) (k : Int) : keysL (ks ++ [k]) = putF k (keysL ks) := by
  unfold keysL
  rw [List.foldl_append]
  rfl
theorem keysL_len' (ks : List Int) : (keysL ks).length ≤ ks.length := keysL_len ks
set_option maxRecDepth 100000 in
set_option maxHeartbeats 8000000 in
theorem rkeys_any {v u : Value} {h : Hist} (w : World) (hh : HistV w v u h) (hs : HistSm h) : Calls Tryz.prog 18 #[.agg #[v, u]] w (fun e w' => ∃ v1, e = .returned v1 ∧ Lst.Ints 0 w' v1 (keysA h) ∧ Aft w w') := by
  obtain ⟨p, c, hv, _⟩ := hh.1.form
  subst hv
  have HT := Lib.hid hh.1
  have HLO := Lib.hid hs.ops
  have HNM := Lib.hid hs.num
  obtain ⟨X, hX⟩ : ∃ X, X = w.alloc (.cells #[.slice p h.txs.length c, u] 25) := ⟨_, rfl⟩
  have HA : Hid (Aft w X) := Lib.hid (by rw [hX]; exact Aft.one _)
  have e0 : X.heap[w.heap.size]? = some (.cells #[.slice p h.txs.length c, u] 25) := by rw [hX]; exact heap_alloc_at _ _ _ rfl
  have c0 : X.cell? ⟨w.heap.size, 0, none⟩ = some (.slice p h.txs.length c) := by simp [World.cell?, e0]
  have hl := heap_lt e0
  obtain ⟨LK, hLK⟩ : ∃ f : Nat → Nat → List Int, f = fun k j => (h.txs.take k).flatMap (fun t => t.ops.map Opr.k) ++ ((h.txs.getD k Txn.zero).ops.take j).map Opr.k := ⟨_, rfl⟩
  have HLK : Hid (∀ k j, (LK k j).length ≤ 100 * k + j) := Lib.hid fun k j => by
    rw [hLK]
    show ((h.txs.take k).flatMap (fun t => t.ops.map Opr.k) ++ ((h.txs.getD k Txn.zero).ops.take j).map Opr.k).length ≤ _
    rw [List.length_append, List.length_map, List.length_take]
    have h1 := flat_len (fun t : Txn => t.ops.map Opr.k) 100 (h.txs.take k) (fun t ht => by rw [List.length_map]; exact HLO.out t (List.mem_of_mem_take ht))
    rw [List.length_take] at h1
    have h2 : 100 * min k h.txs.length ≤ 100 * k := Nat.mul_le_mul_left _ (Nat.min_le_left _ _)
    omega
  have HK0 : Hid (LK 0 0 = []) := Lib.hid (by rw [hLK]; simp)
  have HKJ : Hid (∀ k j, j < (h.txs.getD k Txn.zero).ops.length → LK k (j + 1) = LK k j ++ [((h.txs.getD k Txn.zero).ops.getD j Opr.zero).k]) := Lib.hid fun k j hj => by
    rw [hLK]
    show _ ++ ((h.txs.getD k Txn.zero).ops.take (j + 1)).map Opr.k = _
    rw [Tx.take_snoc _ Opr.zero j hj, List.map_append, ← List.append_assoc]
    rfl
  have HKN : Hid (∀ k, k < h.txs.length → LK (k + 1) 0 = LK k (h.txs.getD k Txn.zero).ops.length) := Lib.hid fun k hk => by
    rw [hLK]
    show (h.txs.take (k + 1)).flatMap (fun t => t.ops.map Opr.k) ++ ((h.txs.getD (k + 1) Txn.zero).ops.take 0).map Opr.k = _
    rw [Tx.take_snoc _ Txn.zero k hk, List.flatMap_append]
    show _ = (h.txs.take k).flatMap (fun t => t.ops.map Opr.k) ++ ((h.txs.getD k Txn.zero).ops.take (h.txs.getD k Txn.zero).ops.length).map Opr.k
    rw [List.take_length]
    simp
  have HKE : Hid (keysL (LK h.txs.length 0) = keysA h) := Lib.hid (by
    rw [hLK]
    show keysL ((h.txs.take h.txs.length).flatMap (fun t => t.ops.map Opr.k) ++ ((h.txs.getD h.txs.length Txn.zero).ops.take 0).map Opr.k) = _
    rw [List.take_length]
    simp [keysA])
  have HI0 : Hid (KI w (LK 0 0) (.slice none 0 0) X) := Lib.hid ⟨by rw [HK0.out]; exact Lst.Ints.nil, HA.out⟩
  clear hs e0 hLK hh
  go_enter Tryz.func18, Tryz.ntmps18
  go_upto_region 2 with fail
  rw [← hX]
  clear hX
  obtain ⟨n1, hn1⟩ : ∃ n, n = h.txs.length := ⟨_, rfl⟩
  rw [← hn1] at c0
  have HN1 := Lib.hid hn1
  clear hn1
  go_wp2_with fail
  clear c0 hl
  go_loopw [3, 11] (fun s3 s11 wr => ∃ k : Nat, s11 = .int .i64 (k : Int) ∧ k ≤ n1 ∧ ∃ vk, vk = s3 ∧ Hid (KI w (LK k 0) vk wr)) (fun _ s11 _ => n1 - (intOf s11).toNat)
  case atStart => exact ⟨0, rfl, Nat.zero_le _, _, rfl, HI0⟩
  case round =>
    clear HI0
    obtain ⟨k, rfl, hk, vk, hvk, HS⟩ := hrel
    subst hvk
    obtain ⟨wA, hwA⟩ : ∃ wA, wA = wr := ⟨_, rfl⟩
    subst hwA
    by_cases hlt : k < n1
    · have hltx : k < h.txs.length := by rw [← HN1.out]; exact hlt
      obtain ⟨g, o, sp, sc, e1, hg, c0, c1, c2, hs⟩ := (HT.out).at_ hltx
      have ha := HS.out.2
      have c0 := ha.cell hg c0
      have c1 := ha.cell hg c1
      have c2 := ha.cell hg c2
      have hg := Nat.lt_of_lt_of_le hg ha.size
      subst e1
      have hkI : (k : Int) < (n1 : Int) := by omega
      have hln := HLO.out _ (getD_mem hltx)
      have HJ := Lib.hid (HKJ.out k)
      have HNX := Lib.hid (HKN.out k hltx)
      have hk1 : k ≤ 999 := by have := HNM.out; omega
      generalize h.txs.getD k Txn.zero = t at c0 c1 c2 hs HJ HNX hln
      obtain ⟨ti, td, tl⟩ := t
      simp only at c0 c1 c2 hs HJ HNX hln
      have HOP : Hid (∀ Z, Aft w Z → Oprs 0 Z (.slice sp tl.length sc) tl) := Lib.hid fun Z hZ => (hs.below hZ).2
      obtain ⟨tn, htn⟩ : ∃ n, n = tl.length := ⟨_, rfl⟩
      rw [← htn] at c2 HOP hln HNX
      have HTN := Lib.hid htn
      have HI1 : Hid (KI w (LK k 0) vk (wA.alloc (.cells #[.int .i64 ti, .bool td, .slice sp tn sc] 42))) := Lib.hid ⟨HS.out.1.below (Aft.one _), ha.trans (Aft.one _)⟩
      clear hs htn HS ha
      go_wp2_with fail
      clear c0 c1 c2
      go_loopw [3, 18] (fun s3 s18 wr => ∃ j : Nat, s18 = .int .i64 (j : Int) ∧ j ≤ tn ∧ ∃ vk, vk = s3 ∧ Hid (KI w (LK k j) vk wr)) (fun _ s18 _ => tn - (intOf s18).toNat)
      case atStart => exact ⟨0, rfl, Nat.zero_le _, _, rfl, HI1⟩
      case round =>
        clear HI1
        obtain ⟨j, rfl, hj, vk, hvk, HS⟩ := hrel
        subst hvk
        obtain ⟨wB, hwB⟩ : ∃ wB, wB = wr := ⟨_, rfl⟩
        subst hwB
        by_cases hlt2 : j < tn
        · have hltl : j < tl.length := by rw [← HTN.out]; exact hlt2
          have ha := HS.out.2
          obtain ⟨p', c', e, _, hc⟩ := (HOP.out _ ha).open_
          injection e with e1 e2 e3
          subst e1 e3
          clear e2
          obtain ⟨g2, o2, rfl, _, hg2, d0, d1, d2, d3⟩ := hc j hltl
          clear hc
          have hjI : (j : Int) < (tn : Int) := by omega
          have HJ2 := Lib.hid (HJ.out j hltl)
          generalize tl.getD j Opr.zero = x at d0 d1 d2 d3 HJ2
          obtain ⟨xr, xk, xt, xn⟩ := x
          dsimp only at d0 d1 d2 d3 HJ2
          obtain ⟨Y, hY⟩ : ∃ Y, Y = wB.alloc (boxO ⟨xr, xk, xt, xn⟩) := ⟨_, rfl⟩
          have HYA : Hid (Aft w Y) := Lib.hid (by rw [hY]; exact ha.lay _)
          obtain ⟨hyl, ⟨i0, i1, i2, i3⟩, _⟩ := cellsO (show Y.heap[wB.heap.size]? = some (boxO ⟨xr, xk, xt, xn⟩) by rw [hY]; exact heap_alloc_at _ _ _ rfl)
          have HP := Lib.hid (rPut_any xk Y (HS.out.1.below (by rw [hY]; exact Aft.one _)) (by have h1 := keysL_len (LK k j); have h2 := HLK.out k j; omega))
          clear HS ha
          unfold boxO at hY
          go_upto_region 8 with fail
          rw [← hY]
          clear hY d0 d1 d2 d3
          go_wp2_with fail
          refine HP.out.mono ?_
          rintro e w5 ⟨v5, rfl, ho5, ha5⟩
          have HR : Hid (KI w (LK k (j + 1)) v5 w5) := Lib.hid ⟨by rw [HJ2.out, keysL_snoc]; exact Lst.OwnI.ints ho5 (by rw [← keysL_snoc, ← HJ2.out]; have h1 := keysL_len (LK k (j + 1)); have h2 := HLK.out k (j + 1); omega), HYA.out.trans ha5⟩
          clear ho5 ha5 HP
          go_wp2_with fail
          go_roundw
          case rel => exact ⟨j + 1, by go_num, by omega, _, rfl, HR⟩
          case measure => simp [intOf]; omega
        · have hje : j = tn := by omega
          have HR : Hid (KI w (LK (k + 1) 0) vk wB) := Lib.hid (by have := HS.out; rw [hje] at this; rw [HNX.out]; exact this)
          clear HS hje
          go_wp2_with fail
          go_roundw
          case rel => exact ⟨k + 1, by go_num, by omega, _, rfl, HR⟩
          case measure => simp [intOf]; omega
    · have hke : k = n1 := by omega
      have HF : Hid (∃ v1, Ending.returned vk = .returned v1 ∧ Lst.Ints 0 wA v1 (keysA h) ∧ Aft w wA) := Lib.hid ⟨vk, rfl, by have := HS.out.1; rw [hke, HN1.out, HKE.out] at this; exact this, HS.out.2⟩
      clear HS hke
      go_wp2_with fail
      go_ret
      exact HF.out
end Go.Proofs.YtcmafmdcgkpagaaGreat.Dg
namespace Go.Proofs.YtcmafmdcgkpagaaGreat.Dg
open Go.ChangeShapes Go.WideShapes Go.ChangeAt Go.RowKit Base F Tx Hi
theorem find_gen {o : Option Txn} {w : World} {e : Ending} {w' : World} (h : FindP o w e w') : ∃ (t : Txn) (fb : Bool) (sp : Option Addr) (sc : Nat), e = .returned (.tuple #[.agg #[.int .i64 t.id, .bool t.dn, .slice sp t.ops.length sc], .bool fb]) ∧ (fb = true → o = some t ∧ OpsV w' (.slice sp t.ops.length sc) t.ops) ∧ (fb = false → o = none) ∧ Aft w w' := by
  obtain ⟨ha, h⟩ := h
  cases o with
  | none => exact ⟨⟨0, false, []⟩, false, none, 0, h, (fun h => by cases h), fun _ => rfl, ha⟩
  | some t =>
    obtain ⟨sp, sc, he, ho⟩ := h
    exact ⟨t, true, sp, sc, he, fun _ => ⟨rfl, ho⟩, (fun h => by cases h), ha⟩
theorem filter_takeD {α : Type} (p : α → Bool) (z : α) (l : List α) (k : Nat) (hk : k < l.length) : ((l.take (k + 1)).filter p).length = ((l.take k).filter p).length + (if p (l.getD k z) = true then 1 else 0) := by
  rw [Tx.take_snoc l z k hk, List.filter_append, List.length_append]
  congr 1
  by_cases h : p (l.getD k z) = true
  · rw [if_pos h, List.filter_cons_of_pos h]; rfl
  · rw [if_neg h, List.filter_cons_of_neg h]; rfl
theorem ref_none1 {h : Hist} {e : Edg} (h1 : findT h.txs e.f = none) : refC h e = 0 := by unfold refC; rw [h1]
theorem ref_none2 {h : Hist} {e : Edg} (h1 : findT h.txs e.t = none) : refC h e = 0 := by unfold refC; rw [h1]; cases findT h.txs e.f <;> rfl
theorem ref_some {h : Hist} {e : Edg} {a b : Txn} (h1 : findT h.txs e.f = some a) (h2 : findT h.txs e.t = some b) : refC h e = if a.dn = true ∧ b.dn = true ∧ e.f ≠ e.t then refN h a b e else 0 := by unfold refC; rw [h1, h2]
set_option maxRecDepth 100000 in
set_option maxHeartbeats 32000000 in
theorem rcount_any {v u : Value} {h : Hist} (w : World) (hh : HistV w v u h) (hs : HistSm h) (e : Edg) : Calls Tryz.prog 19 #[.agg #[v, u], .agg #[.int .i64 e.f, .int .i64 e.t, .int .i64 e.kd, .int .i64 e.k]] w (IntNew ((refC h e : Nat) : Int) w) := by
  obtain ⟨p, c, hv, _⟩ := hh.1.form
  obtain ⟨q, d, hu, _⟩ := hh.2.form
  subst hv hu
  obtain ⟨x0, x1, x2, x3⟩ := e
  dsimp only
  obtain ⟨X, hX⟩ : ∃ X, X = (w.alloc (.cells #[.slice p h.txs.length c, .slice q h.ords.length d] 25)).alloc (.cells #[.int .i64 x0, .int .i64 x1, .int .i64 x2, .int .i64 x3] 27) := ⟨_, rfl⟩
  have HA : Hid (Aft w X) := Lib.hid (by rw [hX]; exact (Aft.one _).lay _)
  have HH := Lib.hid hh
  have HSM := Lib.hid hs
  obtain ⟨n1, hn1⟩ : ∃ n, n = h.txs.length := ⟨_, rfl⟩
  obtain ⟨n2, hn2⟩ : ∃ n, n = h.ords.length := ⟨_, rfl⟩
  rw [← hn1, ← hn2] at HH hX ⊢
  clear hh hs hn1 hn2
  have HC : Hid (∀ Z, Aft X Z → (Z.cell? ⟨w.heap.size, 0, none⟩ = some (.slice p n1 c) ∧ Z.cell? ⟨w.heap.size, 1, none⟩ = some (.slice q n2 d)) ∧ (Z.cell? ⟨w.heap.size + 1, 0, none⟩ = some (.int .i64 x0) ∧ Z.cell? ⟨w.heap.size + 1, 1, none⟩ = some (.int .i64 x1) ∧ Z.cell? ⟨w.heap.size + 1, 2, none⟩ = some (.int .i64 x2) ∧ Z.cell? ⟨w.heap.size + 1, 3, none⟩ = some (.int .i64 x3)) ∧ w.heap.size + 1 < Z.heap.size) := Lib.hid fun Z hZ => by
    have e0 : X.heap[w.heap.size]? = some (.cells #[.slice p n1 c, .slice q n2 d] 25) := by rw [hX]; exact heap_alloc_lt _ _ _ _ (heap_alloc_at _ _ _ rfl)
    have e1 : X.heap[w.heap.size + 1]? = some (.cells #[.int .i64 x0, .int .i64 x1, .int .i64 x2, .int .i64 x3] 27) := by rw [hX]; exact heap_alloc_at _ _ _ (by simp)
    have k0 := (hZ.block _ (heap_lt e0)).trans e0
    have k1 := (hZ.block _ (heap_lt e1)).trans e1
    exact ⟨by simp [World.cell?, k0], by simp [World.cell?, k1], heap_lt k1⟩
  have HV : Hid (∀ W, Aft X W → HistV W (.slice p n1 c) (.slice q n2 d) h) := Lib.hid fun W hW => HH.out.below (HA.out.trans hW)
  have HFD : Hid (∀ W id, Aft X W → Calls Tryz.prog 30 #[.agg #[.slice p n1 c, .slice q n2 d], .int .i64 id] W (FindP (findT h.txs id) W)) := Lib.hid fun W id hW => rfind_any id W (HV.out W hW)
  have HOR : Hid (∀ W key, Aft X W → Calls Tryz.prog 31 #[.agg #[.slice p n1 c, .slice q n2 d], .int .i64 key] W (IdsP (ordL h.ords key) W)) := Lib.hid fun W key hW => rorder_any key W (HV.out W hW)
  have HLT : Hid (∀ W, Aft X W → ∀ o : Opr, Calls Tryz.prog 34 #[.agg #[.slice p n1 c, .slice q n2 d], .agg #[.bool o.rd, .int .i64 o.k, .int .i64 o.t, .int .i64 o.n]] W (BoolNew (lastB h o) W)) := Lib.hid fun W hW o => last_any W (HV.out W hW) HSM.out o
  have HE : Hid (∀ W r, Aft X W → ((refC h ⟨x0, x1, x2, x3⟩ : Nat) : Int) = r → IntNew ((refC h ⟨x0, x1, x2, x3⟩ : Nat) : Int) w (.returned (.int .i64 r)) W) := Lib.hid fun W r hW hr => ⟨by rw [hr], HA.out.trans hW⟩
  have HOL : Hid (∀ id t, findT h.txs id = some t → t.ops.length ≤ 100) := Lib.hid fun id t ht => HSM.out.ops t (findT_mem' ht).1
  have HLO : Hid (∀ key, (ordL h.ords key).length ≤ 1000) := Lib.hid fun key => by
    cases hl : ordL h.ords key with
    | nil => simp
    | cons y l =>
      obtain ⟨o, ho, _, he⟩ := ordL_mem (os := h.ords) (key := key) (x := y) (by rw [hl]; exact List.mem_cons_self)
      rw [← hl, he]
      exact HSM.out.ids o ho
  generalize IntNew ((refC h ⟨x0, x1, x2, x3⟩ : Nat) : Int) w = Post at HE ⊢
  obtain ⟨rc, hrc⟩ : ∃ n, n = refC h ⟨x0, x1, x2, x3⟩ := ⟨_, rfl⟩
  have HRC := Lib.hid hrc
  rw [← hrc] at HE
  clear hrc
  obtain ⟨⟨c0, c1⟩, ⟨d0, d1, d2, d3⟩, hxs⟩ := HC.out X (Aft.refl _)
  go_enter Tryz.func19, Tryz.ntmps19
  go_upto_region 1 with fail
  rw [← hX]
  clear hX HH
  go_wp2_with fail
  refine (HFD.out X x0 (Aft.refl _)).mono ?_
  rintro e w5 hf
  obtain ⟨a, fa, spa, sca, he, hfa1, hfa0, ha5⟩ := find_gen hf
  subst he
  clear hf c0 c1 d0 d1 d2 d3 hxs
  obtain ⟨Y1, hY1⟩ : ∃ Y, Y = w5.alloc (.cells #[.int .i64 a.id, .bool a.dn, .slice spa a.ops.length sca] 42) := ⟨_, rfl⟩
  have H1 : Hid (Aft X Y1 ∧ Aft w5 Y1 ∧ Y1.heap[w5.heap.size]? = some (.cells #[.int .i64 a.id, .bool a.dn, .slice spa a.ops.length sca] 42)) := Lib.hid (by rw [hY1]; exact ⟨ha5.lay _, Aft.one _, heap_alloc_at _ _ _ rfl⟩)
  obtain ⟨⟨c0, c1⟩, ⟨d0, d1, d2, d3⟩, hxs⟩ := HC.out Y1 H1.out.1
  go_upto_region 2 with fail
  rw [← hY1]
  clear hY1
  go_wp2_with fail
  refine (HFD.out Y1 x1 H1.out.1).mono ?_
  rintro e w6 hf
  obtain ⟨b, fb, spb, scb, he, hfb1, hfb0, ha6⟩ := find_gen hf
  subst he
  clear hf c0 c1 d0 d1 d2 d3 hxs
  obtain ⟨D0, hD0⟩ : ∃ Y, Y = w6.alloc (.cells #[.int .i64 b.id, .bool b.dn, .slice spb b.ops.length scb] 42) := ⟨_, rfl⟩
  have H2 : Hid (Aft Y1 D0 ∧ Aft w6 D0 ∧ D0.heap[w6.heap.size]? = some (.cells #[.int .i64 b.id, .bool b.dn, .slice spb b.ops.length scb] 42)) := Lib.hid (by rw [hD0]; exact ⟨ha6.lay _, Aft.one _, heap_alloc_at _ _ _ rfl⟩)
  have HAD : Hid (Aft X D0) := Lib.hid (H1.out.1.trans H2.out.1)
  have HRC2 : Hid ((fa = false → rc = 0) ∧ (fb = false → rc = 0) ∧ (fa = true → fb = true → rc = if a.dn = true ∧ b.dn = true ∧ x0 ≠ x1 then refN h a b ⟨x0, x1, x2, x3⟩ else 0)) := Lib.hid ⟨fun e => by rw [HRC.out]; exact ref_none1 (hfa0 e), fun e => by rw [HRC.out]; exact ref_none2 (hfb0 e), fun e1 e2 => by rw [HRC.out]; exact ref_some (hfa1 e1).1 (hfb1 e2).1⟩
  have HOPA : Hid (fa = true → (∀ Z, Aft D0 Z → Oprs 0 Z (.slice spa a.ops.length sca) a.ops) ∧ a.ops.length ≤ 100) := Lib.hid fun e => ⟨fun Z hZ => ((hfa1 e).2.below (H1.out.2.1.trans (H2.out.1.trans hZ))).2, HOL.out _ _ (hfa1 e).1⟩
  have HOPB : Hid (fb = true → (∀ Z, Aft D0 Z → Oprs 0 Z (.slice spb b.ops.length scb) b.ops) ∧ b.ops.length ≤ 100) := Lib.hid fun e => ⟨fun Z hZ => ((hfb1 e).2.below (H2.out.2.1.trans hZ)).2, HOL.out _ _ (hfb1 e).1⟩
  clear hfa1 hfa0 hfb1 hfb0 ha5 ha6 HFD HOL HRC HSM HV HA
  obtain ⟨ai, ad, al⟩ := a
  obtain ⟨bi, bd, bl⟩ := b
  dsimp only at *
  obtain ⟨an, han⟩ : ∃ n, n = al.length := ⟨_, rfl⟩
  obtain ⟨bn, hbn⟩ : ∃ n, n = bl.length := ⟨_, rfl⟩
  have HAN := Lib.hid han
  have HBN := Lib.hid hbn
  rw [← han] at H1 HOPA
  rw [← hbn] at H2 HOPB hD0
  rw [← han, ← hbn]
  clear han hbn
  have HZ0 : Hid (∀ Z, Aft D0 Z → ((Z.cell? ⟨w.heap.size, 0, none⟩ = some (.slice p n1 c) ∧ Z.cell? ⟨w.heap.size, 1, none⟩ = some (.slice q n2 d)) ∧ (Z.cell? ⟨w.heap.size + 1, 0, none⟩ = some (.int .i64 x0) ∧ Z.cell? ⟨w.heap.size + 1, 1, none⟩ = some (.int .i64 x1) ∧ Z.cell? ⟨w.heap.size + 1, 2, none⟩ = some (.int .i64 x2) ∧ Z.cell? ⟨w.heap.size + 1, 3, none⟩ = some (.int .i64 x3)) ∧ w.heap.size + 1 < Z.heap.size) ∧ ((Z.cell? ⟨w5.heap.size, 0, none⟩ = some (.int .i64 ai) ∧ Z.cell? ⟨w5.heap.size, 1, none⟩ = some (.bool ad) ∧ Z.cell? ⟨w5.heap.size, 2, none⟩ = some (.slice spa an sca)) ∧ w5.heap.size < Z.heap.size) ∧ (Z.cell? ⟨w6.heap.size, 0, none⟩ = some (.int .i64 bi) ∧ Z.cell? ⟨w6.heap.size, 1, none⟩ = some (.bool bd) ∧ Z.cell? ⟨w6.heap.size, 2, none⟩ = some (.slice spb bn scb)) ∧ w6.heap.size < Z.heap.size) := Lib.hid fun Z hZ => by
    have k1 := ((H2.out.1.trans hZ).block _ (heap_lt H1.out.2.2)).trans H1.out.2.2
    have k2 := (hZ.block _ (heap_lt H2.out.2.2)).trans H2.out.2.2
    exact ⟨HC.out Z (HAD.out.trans hZ), ⟨by simp [World.cell?, k1], heap_lt k1⟩, by simp [World.cell?, k2], heap_lt k2⟩
  have HLT : Hid (∀ W, Aft D0 W → ∀ o : Opr, Calls Tryz.prog 34 #[.agg #[.slice p n1 c, .slice q n2 d], .agg #[.bool o.rd, .int .i64 o.k, .int .i64 o.t, .int .i64 o.n]] W (BoolNew (lastB h o) W)) := Lib.hid fun W hW o => HLT.out W (HAD.out.trans hW) o
  have HOR : Hid (∀ W key, Aft D0 W → Calls Tryz.prog 31 #[.agg #[.slice p n1 c, .slice q n2 d], .int .i64 key] W (IdsP (ordL h.ords key) W)) := Lib.hid fun W key hW => HOR.out W key (HAD.out.trans hW)
  have HE : Hid (∀ W r, Aft D0 W → (rc : Int) = r → Post (.returned (.int .i64 r)) W) := Lib.hid fun W r hW hr => HE.out W r (HAD.out.trans hW) hr
  clear H1 H2 HC HAD
  obtain ⟨⟨⟨c0, c1⟩, ⟨d0, d1, d2, d3⟩, hxs⟩, ⟨⟨a0, a1, a2⟩, hal⟩, ⟨b0, b1, b2⟩, hbl⟩ := HZ0.out D0 (Aft.refl _)
  go_upto_region 3 with fail
  rw [← hD0]
  clear hD0
  cases fa with
  | false =>
    have HF := Lib.hid (HE.out D0 0 (Aft.refl _) (by rw [HRC2.out.1 rfl]; rfl))
    clear HZ0 HE HLT HOR
    go_wp2_with fail
    exact HF.out
  | true =>
    cases fb with
    | false =>
      have HF := Lib.hid (HE.out D0 0 (Aft.refl _) (by rw [HRC2.out.2.1 rfl]; rfl))
      clear HZ0 HE HLT HOR
      go_wp2_with fail
      exact HF.out
    | true =>
      have HRC := Lib.hid (HRC2.out.2.2 rfl rfl)
      have HQA := Lib.hid (HOPA.out rfl)
      have HQB := Lib.hid (HOPB.out rfl)
      clear HRC2 HOPA HOPB
      cases ad with
      | false =>
        have HF := Lib.hid (HE.out D0 0 (Aft.refl _) (by rw [HRC.out]; simp))
        clear HZ0 HE HLT HOR
        go_wp2_with fail
        exact HF.out
      | true =>
        cases bd with
        | false =>
          have HF := Lib.hid (HE.out D0 0 (Aft.refl _) (by rw [HRC.out]; simp))
          clear HZ0 HE HLT HOR
          go_wp2_with fail
          exact HF.out
        | true =>
          by_cases hne : x0 = x1
          · have hnb : (x0 == x1) = true := by simp [hne]
            have HF := Lib.hid (HE.out D0 0 (Aft.refl _) (by rw [HRC.out]; simp [hne]))
            clear HZ0 HE HLT HOR
            go_wp2_with fail
            exact HF.out
          · have hnb : (x0 == x1) = false := by simp [hne]
            have HRN : Hid (rc = refN h ⟨ai, true, al⟩ ⟨bi, true, bl⟩ ⟨x0, x1, x2, x3⟩) := Lib.hid (by rw [HRC.out, if_pos ⟨rfl, rfl, hne⟩])
            clear hne HRC
            go_wp2_with fail
            refine (HOR.out D0 x3 (Aft.refl _)).mono ?_
            rintro e w7 ⟨s, rfl, hids, ha7⟩
            have HNX : Hid (∀ W x, Aft w7 W → Calls Tryz.prog 32 #[s, .int .i64 x] W fun e w' => e = .returned (.tuple #[.int .i64 (Om.nextV (ordL h.ords x3) x), .bool (Om.nextB (ordL h.ords x3) x)]) ∧ W = w') := Lib.hid fun W x hW => Or.rnext_any x W (hids.below hW).2 (by have := HLO.out x3; omega)
            obtain ⟨sp7, sn7, sc7, hs7⟩ : ∃ p n c, s = .slice p n c := by
              obtain ⟨p, c, hv, _⟩ := hids.1
              exact ⟨_, _, _, hv⟩
            subst hs7
            have HA7 := Lib.hid ha7
            clear c0 c1 d0 d1 d2 d3 hxs a0 a1 a2 hal b0 b1 b2 hbl hids ha7 HOR HLO hnb
            obtain ⟨⟨⟨c0, c1⟩, ⟨d0, d1, d2, d3⟩, hxs⟩, ⟨⟨a0, a1, a2⟩, hal⟩, ⟨b0, b1, b2⟩, hbl⟩ := HZ0.out w7 HA7.out
            go_wp2_with fail
            refine (HNX.out w7 x0 (Aft.refl _)).mono ?_
            rintro e w8 ⟨rfl, rfl⟩
            generalize hnv : Om.nextV (ordL h.ords x3) x0 = nv
            generalize hnbb : Om.nextB (ordL h.ords x3) x0 = nb
            by_cases h1 : x2 = 1
            · subst h1
              have HR1 : Hid (rc = if (nb && decide (nv = x1)) = true then 1 else 0) := Lib.hid (by rw [HRN.out]; unfold refN nxB; dsimp only; rw [hnv, hnbb]; rfl)
              clear hnv hnbb HNX HLT HQA HQB HRN
              cases nb with
              | false =>
                have HF := Lib.hid (HE.out w7 0 HA7.out (by rw [HR1.out]; simp))
                clear HE HZ0 HR1 HA7
                go_wp2_with fail
                exact HF.out
              | true =>
                by_cases h2 : nv = x1
                · have hb : (nv == x1) = true := by simp [h2]
                  have HF := Lib.hid (HE.out w7 1 HA7.out (by rw [HR1.out]; simp [h2]))
                  clear HE HZ0 HR1 HA7 h2
                  go_wp2_with fail
                  exact HF.out
                · have hb : (nv == x1) = false := by simp [h2]
                  have HF := Lib.hid (HE.out w7 0 HA7.out (by rw [HR1.out]; simp [h2]))
                  clear HE HZ0 HR1 HA7 h2
                  go_wp2_with fail
                  exact HF.out
            · have hb1 : (x2 == 1) = false := by simp [h1]
              clear hnv hnbb
              by_cases h2 : x2 = 2
              · subst h2
                obtain ⟨FB, hFB⟩ : ∃ f : Nat → Nat, f = fun j => ((bl.take j).filter (p2 ⟨ai, true, al⟩ ⟨x0, x1, 2, x3⟩)).length := ⟨_, rfl⟩
                have HFJ : Hid (∀ j, j < bn → FB (j + 1) = FB j + (if p2 ⟨ai, true, al⟩ ⟨x0, x1, 2, x3⟩ (bl.getD j Opr.zero) = true then 1 else 0) ∧ FB j ≤ 100) := Lib.hid fun j hj => by
                  rw [hFB]
                  refine ⟨filter_takeD _ Opr.zero bl j (by rw [← HBN.out]; exact hj), Nat.le_trans (List.length_filter_le _ _) ?_⟩
                  rw [List.length_take]; have := HQB.out.2; omega
                have HFE : Hid (FB 0 = 0 ∧ FB bn = rc) := Lib.hid ⟨by rw [hFB]; rfl, by
                  rw [HRN.out, hFB]
                  show ((bl.take bn).filter _).length = _
                  rw [HBN.out, List.take_length]
                  rfl⟩
                have HJ0 : Hid (Aft w7 w7) := Lib.hid (Aft.refl _)
                clear hFB HRN
                clear HNX HLT
                go_wp2_with fail
                clear c0 c1 d0 d1 d2 d3 hxs a0 a1 a2 hal b0 b1 b2 hbl
                go_loopw [12, 85] (fun s12 s85 wr => ∃ j : Nat, s85 = .int .i64 (j : Int) ∧ s12 = .int .i64 ((FB j : Nat) : Int) ∧ j ≤ bn ∧ Hid (Aft w7 wr)) (fun _ s85 _ => bn - (intOf s85).toNat)
                case atStart => exact ⟨0, rfl, by rw [HFE.out.1]; rfl, Nat.zero_le _, HJ0⟩
                case round =>
                  clear HJ0
                  obtain ⟨j, rfl, rfl, hj, HW⟩ := hrel
                  obtain ⟨wB, hwB⟩ : ∃ wB, wB = wr := ⟨_, rfl⟩
                  subst hwB
                  by_cases hlt2 : j < bn
                  · have haz := HA7.out.trans HW.out
                    have hltl : j < bl.length := by rw [← HBN.out]; exact hlt2
                    obtain ⟨p', c', e, _, hc⟩ := (HQB.out.1 _ haz).open_
                    injection e with e1 e2 e3
                    subst e1 e3
                    clear e2
                    obtain ⟨g2, o2, rfl, _, hg2, f0, f1, f2, f3⟩ := hc j hltl
                    clear hc
                    have hjI : (j : Int) < (bn : Int) := by omega
                    have HFX := Lib.hid (HFJ.out j hlt2)
                    generalize bl.getD j Opr.zero = x at f0 f1 f2 f3 HFX
                    obtain ⟨xr, xk, xt, xn⟩ := x
                    unfold p2 at HFX
                    dsimp only at f0 f1 f2 f3 HFX
                    obtain ⟨Z, hZ⟩ : ∃ Z, Z = wB.alloc (.cells #[.bool xr, .int .i64 xk, .int .i64 xt, .int .i64 xn] 57) := ⟨_, rfl⟩
                    have HZB : Hid (Aft w7 Z) := Lib.hid (by rw [hZ]; exact HW.out.lay _)
                    have HZX : Hid (Z.heap[wB.heap.size]? = some (.cells #[.bool xr, .int .i64 xk, .int .i64 xt, .int .i64 xn] 57)) := Lib.hid (by rw [hZ]; exact heap_alloc_at _ _ _ rfl)
                    obtain ⟨D, hD⟩ : ∃ D, D = Z.drew := ⟨_, rfl⟩
                    have HAD : Hid (Aft w7 D) := Lib.hid (by rw [hD]; exact HZB.out.drew 1)
                    have HCD : Hid (∀ Z, Aft D Z → (Z.cell? ⟨wB.heap.size, 0, none⟩ = some (.bool xr) ∧ Z.cell? ⟨wB.heap.size, 1, none⟩ = some (.int .i64 xk) ∧ Z.cell? ⟨wB.heap.size, 2, none⟩ = some (.int .i64 xt) ∧ Z.cell? ⟨wB.heap.size, 3, none⟩ = some (.int .i64 xn)) ∧ (Z.cell? ⟨w.heap.size + 1, 0, none⟩ = some (.int .i64 x0) ∧ Z.cell? ⟨w.heap.size + 1, 3, none⟩ = some (.int .i64 x3)) ∧ Z.cell? ⟨w5.heap.size, 2, none⟩ = some (.slice spa an sca)) := Lib.hid fun Z hZ => by
                      have eD : D.heap[wB.heap.size]? = some (.cells #[.bool xr, .int .i64 xk, .int .i64 xt, .int .i64 xn] 57) := by rw [hD]; exact HZX.out
                      have e := (hZ.block _ (heap_lt eD)).trans eD
                      obtain ⟨⟨_, ⟨q0, _, _, q3⟩, _⟩, ⟨⟨_, _, q5⟩, _⟩, _⟩ := HZ0.out Z (HA7.out.trans (HAD.out.trans hZ))
                      exact ⟨by simp [World.cell?, e], ⟨q0, q3⟩, q5⟩
                    have HWR : Hid (∀ W, Aft D W → Calls Tryz.prog 33 #[.slice spa an sca, .int .i64 x3] W (IntNew ((wrN al x3 : Nat) : Int) W)) := Lib.hid fun W hW => by
                      have h5 := HQA.out.1 W (HA7.out.trans (HAD.out.trans hW))
                      have h6 := HQA.out.2
                      rw [HAN.out] at h5 h6
                      have := rwrites_any x3 W h5 (by omega)
                      rw [HAN.out]
                      exact this
                    generalize wrN al x3 = wv at HFX HWR
                    have H0 := Lib.hid (HCD.out D (Aft.refl _))
                    clear HW haz HZX hg2
                    cases xr with
                    | false =>
                      have HN : Hid (FB (j + 1) = FB j) := Lib.hid (by have := HFX.out.1; simpa using this)
                      clear HFX HWR
                      go_upto_region 14 with fail
                      rw [← hZ]
                      clear hZ f0 f1 f2 f3
                      refine wp_region_held_drew (S := fun Z => (Z.cell? ⟨wB.heap.size, 0, none⟩ = some (.bool false) ∧ Z.cell? ⟨wB.heap.size, 1, none⟩ = some (.int .i64 xk) ∧ Z.cell? ⟨wB.heap.size, 2, none⟩ = some (.int .i64 xt) ∧ Z.cell? ⟨wB.heap.size, 3, none⟩ = some (.int .i64 xn)) ∧ (Z.cell? ⟨w.heap.size + 1, 0, none⟩ = some (.int .i64 x0) ∧ Z.cell? ⟨w.heap.size + 1, 3, none⟩ = some (.int .i64 x3)) ∧ Z.cell? ⟨w5.heap.size, 2, none⟩ = some (.slice spa an sca)) (by kernel_rfl) (hD ▸ H0.out) (fun hHeld0 => ?_)
                      rw [← hD] at hHeld0 ⊢
                      clear hD
                      refine wpAnyH_take (i := 0) (v := ?_) rfl (by kernel_rfl) (by kernel_rfl) (by kernel_rfl) (fun _ _ _ h => h) (Or.inl ⟨by rfl, ?yca0⟩) (by assumption) ?qca0
                      case yca0 => (intro wz hSw; (try dsimp only at hSw); go_simp <;> with_reducible rfl)
                      try simp only [Act.put, List.getElem_toArray, List.getElem_cons_zero, List.setIfInBounds_toArray, List.set_cons_zero, List.set_cons_succ]
                      refine wpAnyH_take (i := 1) (v := ?_) rfl (by kernel_rfl) (by kernel_rfl) (by kernel_rfl) (fun _ _ _ h => h) (Or.inl ⟨by rfl, ?yca1⟩) (by assumption) ?qca1
                      case yca1 => (intro wz hSw; (try dsimp only at hSw); go_simp <;> with_reducible rfl)
                      try simp only [Act.put, List.getElem_toArray, List.getElem_cons_zero, List.getElem_cons_succ, List.setIfInBounds_toArray, List.set_cons_zero, List.set_cons_succ]
                      refine wpAnyH_take (i := 2) (v := ?_) rfl (by kernel_rfl) (by kernel_rfl) (by kernel_rfl) (fun _ _ _ h => h) (Or.inl ⟨by rfl, ?yca2⟩) (by assumption) ?qca2
                      case yca2 => (intro wz hSw; (try dsimp only at hSw); go_simp <;> with_reducible rfl)
                      try simp only [Act.put, List.getElem_toArray, List.getElem_cons_zero, List.getElem_cons_succ, List.setIfInBounds_toArray, List.set_cons_zero, List.set_cons_succ]
                      refine wpAnyH_take (i := 3) (v := undef) rfl (by kernel_rfl) (by kernel_rfl) (by kernel_rfl) (fun _ _ _ h => h) (Or.inr ⟨by rfl, rfl⟩) (by assumption) ?_
                      try simp only [Act.put, List.getElem_toArray, List.getElem_cons_zero, List.getElem_cons_succ, List.setIfInBounds_toArray, List.set_cons_zero, List.set_cons_succ]
                      refine wpAnyH_take (i := 4) (v := undef) rfl (by kernel_rfl) (by kernel_rfl) (by kernel_rfl) (fun _ _ _ h => h) (Or.inr ⟨by rfl, rfl⟩) (by assumption) ?_
                      try simp only [Act.put, List.getElem_toArray, List.getElem_cons_zero, List.getElem_cons_succ, List.setIfInBounds_toArray, List.set_cons_zero, List.set_cons_succ]
                      refine wpAnyH_take (i := 5) (v := undef) rfl (by kernel_rfl) (by kernel_rfl) (by kernel_rfl) (fun _ _ _ h => h) (Or.inr ⟨by rfl, rfl⟩) (by assumption) ?_
                      try simp only [Act.put, List.getElem_toArray, List.getElem_cons_zero, List.getElem_cons_succ, List.setIfInBounds_toArray, List.set_cons_zero, List.set_cons_succ]
                      refine wpAnyH_take (i := 6) (v := undef) rfl (by kernel_rfl) (by kernel_rfl) (by kernel_rfl) (fun _ _ _ h => h) (Or.inr ⟨by rfl, rfl⟩) (by assumption) ?_
                      try simp only [Act.put, List.getElem_toArray, List.getElem_cons_zero, List.getElem_cons_succ, List.setIfInBounds_toArray, List.set_cons_zero, List.set_cons_succ]
                      refine wpAnyH_take (i := 7) (v := undef) rfl (by kernel_rfl) (by kernel_rfl) (by kernel_rfl) (fun _ _ _ h => h) (Or.inr ⟨by rfl, rfl⟩) (by assumption) ?_
                      try simp only [Act.put, List.getElem_toArray, List.getElem_cons_zero, List.getElem_cons_succ, List.setIfInBounds_toArray, List.set_cons_zero, List.set_cons_succ]
                      refine wpAnyH_take (i := 8) (v := ?_) rfl (by kernel_rfl) (by kernel_rfl) (by kernel_rfl) (fun _ _ _ h => h) (Or.inl ⟨by rfl, ?yca8⟩) (by assumption) ?qca8
                      case yca8 => (intro wz hSw; (try dsimp only at hSw); go_simp <;> with_reducible rfl)
                      try simp only [Act.put, List.getElem_toArray, List.getElem_cons_zero, List.getElem_cons_succ, List.setIfInBounds_toArray, List.set_cons_zero, List.set_cons_succ]
                      refine wpAnyH_take (i := 9) (v := ?_) rfl (by kernel_rfl) (by kernel_rfl) (by kernel_rfl) (fun _ _ _ h => h) (Or.inl ⟨by rfl, ?yca9⟩) (by assumption) ?qca9
                      case yca9 => (intro wz hSw; (try dsimp only at hSw); go_simp <;> with_reducible rfl)
                      try simp only [Act.put, List.getElem_toArray, List.getElem_cons_zero, List.getElem_cons_succ, List.setIfInBounds_toArray, List.set_cons_zero, List.set_cons_succ]
                      refine wpAnyH_take (i := 10) (v := undef) rfl (by kernel_rfl) (by kernel_rfl) (by kernel_rfl) (fun _ _ _ h => h) (Or.inr ⟨by rfl, rfl⟩) (by assumption) ?_
                      try simp only [Act.put, List.getElem_toArray, List.getElem_cons_zero, List.getElem_cons_succ, List.setIfInBounds_toArray, List.set_cons_zero, List.set_cons_succ]
                      refine wpAnyH_take (i := 11) (v := undef) rfl (by kernel_rfl) (by kernel_rfl) (by kernel_rfl) (fun _ _ _ h => h) (Or.inr ⟨by rfl, rfl⟩) (by assumption) ?_
                      try simp only [Act.put, List.getElem_toArray, List.getElem_cons_zero, List.getElem_cons_succ, List.setIfInBounds_toArray, List.set_cons_zero, List.set_cons_succ]
                      refine wpAnyH_take (i := 12) (v := undef) rfl (by kernel_rfl) (by kernel_rfl) (by kernel_rfl) (fun _ _ _ h => h) (Or.inr ⟨by rfl, rfl⟩) (by assumption) ?_
                      try simp only [Act.put, List.getElem_toArray, List.getElem_cons_zero, List.getElem_cons_succ, List.setIfInBounds_toArray, List.set_cons_zero, List.set_cons_succ]
                      refine wpAnyH_take (i := 13) (v := undef) rfl (by kernel_rfl) (by kernel_rfl) (by kernel_rfl) (fun _ _ _ h => h) (Or.inr ⟨by rfl, rfl⟩) (by assumption) ?_
                      try simp only [Act.put, List.getElem_toArray, List.getElem_cons_zero, List.getElem_cons_succ, List.setIfInBounds_toArray, List.set_cons_zero, List.set_cons_succ]
                      refine wpAnyH_take (i := 14) (v := undef) rfl (by kernel_rfl) (by kernel_rfl) (by kernel_rfl) (fun _ _ _ h => h) (Or.inr ⟨by rfl, rfl⟩) (by assumption) ?_
                      try simp only [Act.put, List.getElem_toArray, List.getElem_cons_zero, List.getElem_cons_succ, List.setIfInBounds_toArray, List.set_cons_zero, List.set_cons_succ]
                      refine wpAnyH_take (i := 15) (v := ?_) rfl (by kernel_rfl) (by kernel_rfl) (by kernel_rfl) (fun _ _ _ h => h) (Or.inl ⟨by rfl, ?yca15⟩) (by assumption) ?qca15
                      case yca15 => (intro wz hSw; (try dsimp only at hSw); go_simp <;> with_reducible rfl)
                      try simp only [Act.put, List.getElem_toArray, List.getElem_cons_zero, List.getElem_cons_succ, List.setIfInBounds_toArray, List.set_cons_zero, List.set_cons_succ]
                      refine wpAnyH_take (i := 16) (v := ?_) rfl (by kernel_rfl) (by kernel_rfl) (by kernel_rfl) (fun _ _ _ h => h) (Or.inl ⟨by rfl, ?yca16⟩) (by assumption) ?qca16
                      case yca16 => (intro wz hSw; (try dsimp only at hSw); go_simp <;> with_reducible rfl)
                      try simp only [Act.put, List.getElem_toArray, List.getElem_cons_zero, List.getElem_cons_succ, List.setIfInBounds_toArray, List.set_cons_zero, List.set_cons_succ]
                      refine wpAnyH_take (i := 17) (v := undef) rfl (by kernel_rfl) (by kernel_rfl) (by kernel_rfl) (fun _ _ _ h => h) (Or.inr ⟨by rfl, rfl⟩) (by assumption) ?_
                      try simp only [Act.put, List.getElem_toArray, List.getElem_cons_zero, List.getElem_cons_succ, List.setIfInBounds_toArray, List.set_cons_zero, List.set_cons_succ]
                      refine wpAnyH_take (i := 18) (v := undef) rfl (by kernel_rfl) (by kernel_rfl) (by kernel_rfl) (fun _ _ _ h => h) (Or.inr ⟨by rfl, rfl⟩) (by assumption) ?_
                      try simp only [Act.put, List.getElem_toArray, List.getElem_cons_zero, List.getElem_cons_succ, List.setIfInBounds_toArray, List.set_cons_zero, List.set_cons_succ]
                      refine wpAnyH_take (i := 19) (v := undef) rfl (by kernel_rfl) (by kernel_rfl) (by kernel_rfl) (fun _ _ _ h => h) (Or.inr ⟨by rfl, rfl⟩) (by assumption) ?_
                      try simp only [Act.put, List.getElem_toArray, List.getElem_cons_zero, List.getElem_cons_succ, List.setIfInBounds_toArray, List.set_cons_zero, List.set_cons_succ]
                      refine wpAnyH_take (i := 20) (v := undef) rfl (by kernel_rfl) (by kernel_rfl) (by kernel_rfl) (fun _ _ _ h => h) (Or.inr ⟨by rfl, rfl⟩) (by assumption) ?_
                      try simp only [Act.put, List.getElem_toArray, List.getElem_cons_zero, List.getElem_cons_succ, List.setIfInBounds_toArray, List.set_cons_zero, List.set_cons_succ]
                      refine wpAnyH_take (i := 21) (v := undef) rfl (by kernel_rfl) (by kernel_rfl) (by kernel_rfl) (fun _ _ _ h => h) (Or.inr ⟨by rfl, rfl⟩) (by assumption) ?_
                      try simp only [Act.put, List.getElem_toArray, List.getElem_cons_zero, List.getElem_cons_succ, List.setIfInBounds_toArray, List.set_cons_zero, List.set_cons_succ]
                      refine wpAnyH_take (i := 22) (v := undef) rfl (by kernel_rfl) (by kernel_rfl) (by kernel_rfl) (fun _ _ _ h => h) (Or.inr ⟨by rfl, rfl⟩) (by assumption) ?_
                      try simp only [Act.put, List.getElem_toArray, List.getElem_cons_zero, List.getElem_cons_succ, List.setIfInBounds_toArray, List.set_cons_zero, List.set_cons_succ]
                      refine wpAnyH_take (i := 23) (v := undef) rfl (by kernel_rfl) (by kernel_rfl) (by kernel_rfl) (fun _ _ _ h => h) (Or.inr ⟨by rfl, rfl⟩) (by assumption) ?_
                      try simp only [Act.put, List.getElem_toArray, List.getElem_cons_zero, List.getElem_cons_succ, List.setIfInBounds_toArray, List.set_cons_zero, List.set_cons_succ]
                      refine wpAnyH_take (i := 24) (v := undef) rfl (by kernel_rfl) (by kernel_rfl) (by kernel_rfl) (fun _ _ _ h => h) (Or.inr ⟨by rfl, rfl⟩) (by assumption) ?_
                      try simp only [Act.put, List.getElem_toArray, List.getElem_cons_zero, List.getElem_cons_succ, List.setIfInBounds_toArray, List.set_cons_zero, List.set_cons_succ]
                      refine wpAnyH_take (i := 25) (v := ?_) rfl (by kernel_rfl) (by kernel_rfl) (by kernel_rfl) (fun _ _ _ h => h) (Or.inl ⟨by rfl, ?yca25⟩) (by assumption) ?qca25
                      case yca25 => (intro wz hSw; (try dsimp only at hSw); go_simp <;> with_reducible rfl)
                      try simp only [Act.put, List.getElem_toArray, List.getElem_cons_zero, List.getElem_cons_succ, List.setIfInBounds_toArray, List.set_cons_zero, List.set_cons_succ]
                      refine wpAnyH_done (by kernel_rfl) ?_ _
                      clear hHeld0 HCD H0
                      go_wp2_with fail
                      go_roundw
                      case rel => exact ⟨j + 1, by go_num, by rw [HN.out], by omega, HAD⟩
                      case measure => simp [intOf]; omega
                    | true =>
                      by_cases hk : xk = x3
                      · have hb2 : (xk == x3) = true := by simp [hk]
                        by_cases ht : xt = x0
                        · have hb3 : (xt == x0) = true := by simp [ht]
                          have HN : Hid (FB (j + 1) = FB j + (if xn = (wv : Int) then 1 else 0) ∧ FB j ≤ 100) := Lib.hid ⟨by have := HFX.out.1; simpa [hk, ht] using this, HFX.out.2⟩
                          clear HFX hk ht
                          go_upto_region 14 with fail
                          rw [← hZ]
                          clear hZ f0 f1 f2 f3
                          refine wp_region_held_drew (S := fun Z => (Z.cell? ⟨wB.heap.size, 0, none⟩ = some (.bool true) ∧ Z.cell? ⟨wB.heap.size, 1, none⟩ = some (.int .i64 xk) ∧ Z.cell? ⟨wB.heap.size, 2, none⟩ = some (.int .i64 xt) ∧ Z.cell? ⟨wB.heap.size, 3, none⟩ = some (.int .i64 xn)) ∧ (Z.cell? ⟨w.heap.size + 1, 0, none⟩ = some (.int .i64 x0) ∧ Z.cell? ⟨w.heap.size + 1, 3, none⟩ = some (.int .i64 x3)) ∧ Z.cell? ⟨w5.heap.size, 2, none⟩ = some (.slice spa an sca)) (by kernel_rfl) (hD ▸ H0.out) (fun hHeld0 => ?_)
                          rw [← hD] at hHeld0 ⊢
                          clear hD
                          refine wpAnyH_take (i := 0) (v := ?_) rfl (by kernel_rfl) (by kernel_rfl) (by kernel_rfl) (fun _ _ _ h => h) (Or.inl ⟨by rfl, ?ycd0⟩) (by assumption) ?qcd0
                          case ycd0 => (intro wz hSw; (try dsimp only at hSw); go_simp <;> with_reducible rfl)
                          try simp only [Act.put, List.getElem_toArray, List.getElem_cons_zero, List.setIfInBounds_toArray, List.set_cons_zero, List.set_cons_succ]
                          refine wpAnyH_take (i := 1) (v := ?_) rfl (by kernel_rfl) (by kernel_rfl) (by kernel_rfl) (fun _ _ _ h => h) (Or.inl ⟨by rfl, ?ycd1⟩) (by assumption) ?qcd1
                          case ycd1 => (intro wz hSw; (try dsimp only at hSw); go_simp <;> with_reducible rfl)
                          try simp only [Act.put, List.getElem_toArray, List.getElem_cons_zero, List.getElem_cons_succ, List.setIfInBounds_toArray, List.set_cons_zero, List.set_cons_succ]
                          refine wpAnyH_take (i := 2) (v := ?_) rfl (by kernel_rfl) (by kernel_rfl) (by kernel_rfl) (fun _ _ _ h => h) (Or.inl ⟨by rfl, ?ycd2⟩) (by assumption) ?qcd2
                          case ycd2 => (intro wz hSw; (try dsimp only at hSw); go_simp <;> with_reducible rfl)
                          try simp only [Act.put, List.getElem_toArray, List.getElem_cons_zero, List.getElem_cons_succ, List.setIfInBounds_toArray, List.set_cons_zero, List.set_cons_succ]
                          refine wpAnyH_take (i := 3) (v := ?_) rfl (by kernel_rfl) (by kernel_rfl) (by kernel_rfl) (fun _ _ _ h => h) (Or.inl ⟨by rfl, ?ycd3⟩) (by assumption) ?qcd3
                          case ycd3 => (intro wz hSw; (try dsimp only at hSw); go_simp <;> with_reducible rfl)
                          try simp only [Act.put, List.getElem_toArray, List.getElem_cons_zero, List.getElem_cons_succ, List.setIfInBounds_toArray, List.set_cons_zero, List.set_cons_succ]
                          refine wpAnyH_take (i := 4) (v := ?_) rfl (by kernel_rfl) (by kernel_rfl) (by kernel_rfl) (fun _ _ _ h => h) (Or.inl ⟨by rfl, ?ycd4⟩) (by assumption) ?qcd4
                          case ycd4 => (intro wz hSw; (try dsimp only at hSw); go_simp <;> with_reducible rfl)
                          try simp only [Act.put, List.getElem_toArray, List.getElem_cons_zero, List.getElem_cons_succ, List.setIfInBounds_toArray, List.set_cons_zero, List.set_cons_succ]
                          refine wpAnyH_take (i := 5) (v := ?_) rfl (by kernel_rfl) (by kernel_rfl) (by kernel_rfl) (fun _ _ _ h => h) (Or.inl ⟨by rfl, ?ycd5⟩) (by assumption) ?qcd5
                          case ycd5 => (intro wz hSw; (try dsimp only at hSw); go_simp <;> with_reducible rfl)
                          try simp only [Act.put, List.getElem_toArray, List.getElem_cons_zero, List.getElem_cons_succ, List.setIfInBounds_toArray, List.set_cons_zero, List.set_cons_succ]
                          refine wpAnyH_take (i := 6) (v := ?_) rfl (by kernel_rfl) (by kernel_rfl) (by kernel_rfl) (fun _ _ _ h => h) (Or.inl ⟨by rfl, ?ycd6⟩) (by assumption) ?qcd6
                          case ycd6 => (intro wz hSw; (try dsimp only at hSw); go_simp <;> with_reducible rfl)
                          try simp only [Act.put, List.getElem_toArray, List.getElem_cons_zero, List.getElem_cons_succ, List.setIfInBounds_toArray, List.set_cons_zero, List.set_cons_succ]
                          refine wpAnyH_take (i := 7) (v := ?_) rfl (by kernel_rfl) (by kernel_rfl) (by kernel_rfl) (fun _ _ _ h => h) (Or.inl ⟨by rfl, ?ycd7⟩) (by assumption) ?qcd7
                          case ycd7 => (intro wz hSw; (try dsimp only at hSw); go_simp <;> with_reducible rfl)
                          try simp only [Act.put, List.getElem_toArray, List.getElem_cons_zero, List.getElem_cons_succ, List.setIfInBounds_toArray, List.set_cons_zero, List.set_cons_succ]
                          refine wpAnyH_take (i := 8) (v := ?_) rfl (by kernel_rfl) (by kernel_rfl) (by kernel_rfl) (fun _ _ _ h => h) (Or.inl ⟨by rfl, ?ycd8⟩) (by assumption) ?qcd8
                          case ycd8 => (intro wz hSw; (try dsimp only at hSw); go_simp <;> with_reducible rfl)
                          try simp only [Act.put, List.getElem_toArray, List.getElem_cons_zero, List.getElem_cons_succ, List.setIfInBounds_toArray, List.set_cons_zero, List.set_cons_succ]
                          refine wpAnyH_take (i := 9) (v := ?_) rfl (by kernel_rfl) (by kernel_rfl) (by kernel_rfl) (fun _ _ _ h => h) (Or.inl ⟨by rfl, ?ycd9⟩) (by assumption) ?qcd9
                          case ycd9 => (intro wz hSw; (try dsimp only at hSw); go_simp <;> with_reducible rfl)
                          try simp only [Act.put, List.getElem_toArray, List.getElem_cons_zero, List.getElem_cons_succ, List.setIfInBounds_toArray, List.set_cons_zero, List.set_cons_succ]
                          refine wpAnyH_take (i := 10) (v := ?_) rfl (by kernel_rfl) (by kernel_rfl) (by kernel_rfl) (fun _ _ _ h => h) (Or.inl ⟨by rfl, ?ycd10⟩) (by assumption) ?qcd10
                          case ycd10 => (intro wz hSw; (try dsimp only at hSw); go_simp <;> with_reducible rfl)
                          try simp only [Act.put, List.getElem_toArray, List.getElem_cons_zero, List.getElem_cons_succ, List.setIfInBounds_toArray, List.set_cons_zero, List.set_cons_succ]
                          refine wpAnyH_take (i := 11) (v := ?_) rfl (by kernel_rfl) (by kernel_rfl) (by kernel_rfl) (fun _ _ _ h => h) (Or.inl ⟨by rfl, ?ycd11⟩) (by assumption) ?qcd11
                          case ycd11 => (intro wz hSw; (try dsimp only at hSw); go_simp <;> with_reducible rfl)
                          try simp only [Act.put, List.getElem_toArray, List.getElem_cons_zero, List.getElem_cons_succ, List.setIfInBounds_toArray, List.set_cons_zero, List.set_cons_succ]
                          refine wpAnyH_take (i := 12) (v := ?_) rfl (by kernel_rfl) (by kernel_rfl) (by kernel_rfl) (fun _ _ _ h => h) (Or.inl ⟨by rfl, ?ycd12⟩) (by assumption) ?qcd12
                          case ycd12 => (intro wz hSw; (try dsimp only at hSw); go_simp <;> with_reducible rfl)
                          try simp only [Act.put, List.getElem_toArray, List.getElem_cons_zero, List.getElem_cons_succ, List.setIfInBounds_toArray, List.set_cons_zero, List.set_cons_succ]
                          refine wpAnyH_take (i := 13) (v := ?_) rfl (by kernel_rfl) (by kernel_rfl) (by kernel_rfl) (fun _ _ _ h => h) (Or.inl ⟨by rfl, ?ycd13⟩) (by assumption) ?qcd13
                          case ycd13 => (intro wz hSw; (try dsimp only at hSw); go_simp <;> with_reducible rfl)
                          try simp only [Act.put, List.getElem_toArray, List.getElem_cons_zero, List.getElem_cons_succ, List.setIfInBounds_toArray, List.set_cons_zero, List.set_cons_succ]
                          refine wpAnyH_take (i := 14) (v := ?_) rfl (by kernel_rfl) (by kernel_rfl) (by kernel_rfl) (fun _ _ _ h => h) (Or.inl ⟨by rfl, ?ycd14⟩) (by assumption) ?qcd14
                          case ycd14 => (intro wz hSw; (try dsimp only at hSw); go_simp <;> with_reducible rfl)
                          try simp only [Act.put, List.getElem_toArray, List.getElem_cons_zero, List.getElem_cons_succ, List.setIfInBounds_toArray, List.set_cons_zero, List.set_cons_succ]
                          refine wpAnyH_take (i := 15) (v := ?_) rfl (by kernel_rfl) (by kernel_rfl) (by kernel_rfl) (fun _ _ _ h => h) (Or.inl ⟨by rfl, ?ycd15⟩) (by assumption) ?qcd15
                          case ycd15 => (intro wz hSw; (try dsimp only at hSw); go_simp <;> with_reducible rfl)
                          try simp only [Act.put, List.getElem_toArray, List.getElem_cons_zero, List.getElem_cons_succ, List.setIfInBounds_toArray, List.set_cons_zero, List.set_cons_succ]
                          refine wpAnyH_take (i := 16) (v := ?_) rfl (by kernel_rfl) (by kernel_rfl) (by kernel_rfl) (fun _ _ _ h => h) (Or.inl ⟨by rfl, ?ycd16⟩) (by assumption) ?qcd16
                          case ycd16 => (intro wz hSw; (try dsimp only at hSw); go_simp <;> with_reducible rfl)
                          try simp only [Act.put, List.getElem_toArray, List.getElem_cons_zero, List.getElem_cons_succ, List.setIfInBounds_toArray, List.set_cons_zero, List.set_cons_succ]
                          refine wpAnyH_take (i := 17) (v := ?_) rfl (by kernel_rfl) (by kernel_rfl) (by kernel_rfl) (fun _ _ _ h => h) (Or.inl ⟨by rfl, ?ycd17⟩) (by assumption) ?qcd17
                          case ycd17 => (intro wz hSw; (try dsimp only at hSw); go_simp <;> with_reducible rfl)
                          try simp only [Act.put, List.getElem_toArray, List.getElem_cons_zero, List.getElem_cons_succ, List.setIfInBounds_toArray, List.set_cons_zero, List.set_cons_succ]
                          refine wpAnyH_take (i := 18) (v := ?_) rfl (by kernel_rfl) (by kernel_rfl) (by kernel_rfl) (fun _ _ _ h => h) (Or.inl ⟨by rfl, ?ycd18⟩) (by assumption) ?qcd18
                          case ycd18 => (intro wz hSw; (try dsimp only at hSw); go_simp <;> with_reducible rfl)
                          try simp only [Act.put, List.getElem_toArray, List.getElem_cons_zero, List.getElem_cons_succ, List.setIfInBounds_toArray, List.set_cons_zero, List.set_cons_succ]
                          refine wpAnyH_take (i := 19) (v := ?_) rfl (by kernel_rfl) (by kernel_rfl) (by kernel_rfl) (fun _ _ _ h => h) (Or.inl ⟨by rfl, ?ycd19⟩) (by assumption) ?qcd19
                          case ycd19 => (intro wz hSw; (try dsimp only at hSw); go_simp <;> with_reducible rfl)
                          try simp only [Act.put, List.getElem_toArray, List.getElem_cons_zero, List.getElem_cons_succ, List.setIfInBounds_toArray, List.set_cons_zero, List.set_cons_succ]
                          refine wpAnyH_take (i := 20) (v := ?_) rfl (by kernel_rfl) (by kernel_rfl) (by kernel_rfl) (fun _ _ _ h => h) (Or.inl ⟨by rfl, ?ycd20⟩) (by assumption) ?qcd20
                          case ycd20 => (intro wz hSw; (try dsimp only at hSw); go_simp <;> with_reducible rfl)
                          try simp only [Act.put, List.getElem_toArray, List.getElem_cons_zero, List.getElem_cons_succ, List.setIfInBounds_toArray, List.set_cons_zero, List.set_cons_succ]
                          refine wpAnyH_take (i := 21) (v := ?_) rfl (by kernel_rfl) (by kernel_rfl) (by kernel_rfl) (fun _ _ _ h => h) (Or.inl ⟨by rfl, ?ycd21⟩) (by assumption) ?qcd21
                          case ycd21 => (intro wz hSw; (try dsimp only at hSw); go_simp <;> with_reducible rfl)
                          try simp only [Act.put, List.getElem_toArray, List.getElem_cons_zero, List.getElem_cons_succ, List.setIfInBounds_toArray, List.set_cons_zero, List.set_cons_succ]
                          refine wpAnyH_take (i := 22) (v := ?_) rfl (by kernel_rfl) (by kernel_rfl) (by kernel_rfl) (fun _ _ _ h => h) (Or.inl ⟨by rfl, ?ycd22⟩) (by assumption) ?qcd22
                          case ycd22 => (intro wz hSw; (try dsimp only at hSw); go_simp <;> with_reducible rfl)
                          try simp only [Act.put, List.getElem_toArray, List.getElem_cons_zero, List.getElem_cons_succ, List.setIfInBounds_toArray, List.set_cons_zero, List.set_cons_succ]
                          refine wpAnyH_ready (rs := [23]) (by kernel_rfl) (by simp) ?_
                          refine AllReadyH.cons rfl (fun K hK => ?_) AllReadyH.nil
                          go_simp
                          refine (HWR.out D (Aft.refl _)).mono ?_
                          rintro e w9 ⟨rfl, hb9⟩
                          have HA9 : Hid (Aft D w9) := Lib.hid hb9
                          clear hb9
                          refine hK.out _ _ (HCD.out _ HA9.out) (fun hHeldcd23 => ?_)
                          clear hK K
                          try simp only [Act.put, List.getElem_toArray, List.getElem_cons_zero, List.getElem_cons_succ, List.setIfInBounds_toArray, List.set_cons_zero, List.set_cons_succ]
                          refine wpAnyH_take (i := 24) (v := ?_) rfl (by kernel_rfl) (by kernel_rfl) (by kernel_rfl) (fun _ _ _ h => h) (Or.inl ⟨by rfl, ?ycd24⟩) (by assumption) ?qcd24
                          case ycd24 => (intro wz hSw; (try dsimp only at hSw); go_simp <;> with_reducible rfl)
                          try simp only [Act.put, List.getElem_toArray, List.getElem_cons_zero, List.getElem_cons_succ, List.setIfInBounds_toArray, List.set_cons_zero, List.set_cons_succ]
                          refine wpAnyH_take (i := 25) (v := ?_) rfl (by kernel_rfl) (by kernel_rfl) (by kernel_rfl) (fun _ _ _ h => h) (Or.inl ⟨by rfl, ?ycd25⟩) (by assumption) ?qcd25
                          case ycd25 => (intro wz hSw; (try dsimp only at hSw); go_simp <;> with_reducible rfl)
                          try simp only [Act.put, List.getElem_toArray, List.getElem_cons_zero, List.getElem_cons_succ, List.setIfInBounds_toArray, List.set_cons_zero, List.set_cons_succ]
                          refine wpAnyH_done (by kernel_rfl) ?_ _
                          have HZ9 : Hid (Aft w7 w9) := Lib.hid (HAD.out.trans HA9.out)
                          clear hHeld0 hHeldcd23 HCD H0 HWR HA9
                          by_cases hn : xn = (wv : Int)
                          · have hb4 : (xn == (wv : Int)) = true := by simp [hn]
                            have HN1 : Hid (FB (j + 1) = FB j + 1 ∧ FB j ≤ 100) := Lib.hid ⟨by have := HN.out.1; simpa [hn] using this, HN.out.2⟩
                            have hw : IntKind.i64.wrap (((FB j : Nat) : Int) + 1) = ((FB (j + 1) : Nat) : Int) := by have h3 := HN1.out.1; have h4 := HN1.out.2; rw [IntKind.wrap_i64] <;> omega
                            clear HN HN1 hn
                            go_wp2_with fail
                            go_roundw
                            case rel => exact ⟨j + 1, by go_num, by first | rfl | rw [hw] | simp [hw], by omega, HZ9⟩
                            case measure => simp [intOf]; omega
                          · have hb4 : (xn == (wv : Int)) = false := by simp [hn]
                            have HN1 : Hid (FB (j + 1) = FB j) := Lib.hid (by have := HN.out.1; simpa [hn] using this)
                            clear HN hn
                            go_wp2_with fail
                            go_roundw
                            case rel => exact ⟨j + 1, by go_num, by rw [HN1.out], by omega, HZ9⟩
                            case measure => simp [intOf]; omega
                        · have hb3 : (xt == x0) = false := by simp [ht]
                          have HN : Hid (FB (j + 1) = FB j) := Lib.hid (by have := HFX.out.1; simpa [ht] using this)
                          clear HFX HWR hk ht
                          go_upto_region 14 with fail
                          rw [← hZ]
                          clear hZ f0 f1 f2 f3
                          refine wp_region_held_drew (S := fun Z => (Z.cell? ⟨wB.heap.size, 0, none⟩ = some (.bool true) ∧ Z.cell? ⟨wB.heap.size, 1, none⟩ = some (.int .i64 xk) ∧ Z.cell? ⟨wB.heap.size, 2, none⟩ = some (.int .i64 xt) ∧ Z.cell? ⟨wB.heap.size, 3, none⟩ = some (.int .i64 xn)) ∧ (Z.cell? ⟨w.heap.size + 1, 0, none⟩ = some (.int .i64 x0) ∧ Z.cell? ⟨w.heap.size + 1, 3, none⟩ = some (.int .i64 x3)) ∧ Z.cell? ⟨w5.heap.size, 2, none⟩ = some (.slice spa an sca)) (by kernel_rfl) (hD ▸ H0.out) (fun hHeld0 => ?_)
                          rw [← hD] at hHeld0 ⊢
                          clear hD
                          refine wpAnyH_take (i := 0) (v := ?_) rfl (by kernel_rfl) (by kernel_rfl) (by kernel_rfl) (fun _ _ _ h => h) (Or.inl ⟨by rfl, ?ycc0⟩) (by assumption) ?qcc0
                          case ycc0 => (intro wz hSw; (try dsimp only at hSw); go_simp <;> with_reducible rfl)
                          try simp only [Act.put, List.getElem_toArray, List.getElem_cons_zero, List.setIfInBounds_toArray, List.set_cons_zero, List.set_cons_succ]
                          refine wpAnyH_take (i := 1) (v := ?_) rfl (by kernel_rfl) (by kernel_rfl) (by kernel_rfl) (fun _ _ _ h => h) (Or.inl ⟨by rfl, ?ycc1⟩) (by assumption) ?qcc1
                          case ycc1 => (intro wz hSw; (try dsimp only at hSw); go_simp <;> with_reducible rfl)
                          try simp only [Act.put, List.getElem_toArray, List.getElem_cons_zero, List.getElem_cons_succ, List.setIfInBounds_toArray, List.set_cons_zero, List.set_cons_succ]
                          refine wpAnyH_take (i := 2) (v := ?_) rfl (by kernel_rfl) (by kernel_rfl) (by kernel_rfl) (fun _ _ _ h => h) (Or.inl ⟨by rfl, ?ycc2⟩) (by assumption) ?qcc2
                          case ycc2 => (intro wz hSw; (try dsimp only at hSw); go_simp <;> with_reducible rfl)
                          try simp only [Act.put, List.getElem_toArray, List.getElem_cons_zero, List.getElem_cons_succ, List.setIfInBounds_toArray, List.set_cons_zero, List.set_cons_succ]
                          refine wpAnyH_take (i := 3) (v := ?_) rfl (by kernel_rfl) (by kernel_rfl) (by kernel_rfl) (fun _ _ _ h => h) (Or.inl ⟨by rfl, ?ycc3⟩) (by assumption) ?qcc3
                          case ycc3 => (intro wz hSw; (try dsimp only at hSw); go_simp <;> with_reducible rfl)
                          try simp only [Act.put, List.getElem_toArray, List.getElem_cons_zero, List.getElem_cons_succ, List.setIfInBounds_toArray, List.set_cons_zero, List.set_cons_succ]
                          refine wpAnyH_take (i := 4) (v := ?_) rfl (by kernel_rfl) (by kernel_rfl) (by kernel_rfl) (fun _ _ _ h => h) (Or.inl ⟨by rfl, ?ycc4⟩) (by assumption) ?qcc4
                          case ycc4 => (intro wz hSw; (try dsimp only at hSw); go_simp <;> with_reducible rfl)
                          try simp only [Act.put, List.getElem_toArray, List.getElem_cons_zero, List.getElem_cons_succ, List.setIfInBounds_toArray, List.set_cons_zero, List.set_cons_succ]
                          refine wpAnyH_take (i := 5) (v := ?_) rfl (by kernel_rfl) (by kernel_rfl) (by kernel_rfl) (fun _ _ _ h => h) (Or.inl ⟨by rfl, ?ycc5⟩) (by assumption) ?qcc5
                          case ycc5 => (intro wz hSw; (try dsimp only at hSw); go_simp <;> with_reducible rfl)
                          try simp only [Act.put, List.getElem_toArray, List.getElem_cons_zero, List.getElem_cons_succ, List.setIfInBounds_toArray, List.set_cons_zero, List.set_cons_succ]
                          refine wpAnyH_take (i := 6) (v := ?_) rfl (by kernel_rfl) (by kernel_rfl) (by kernel_rfl) (fun _ _ _ h => h) (Or.inl ⟨by rfl, ?ycc6⟩) (by assumption) ?qcc6
                          case ycc6 => (intro wz hSw; (try dsimp only at hSw); go_simp <;> with_reducible rfl)
                          try simp only [Act.put, List.getElem_toArray, List.getElem_cons_zero, List.getElem_cons_succ, List.setIfInBounds_toArray, List.set_cons_zero, List.set_cons_succ]
                          refine wpAnyH_take (i := 7) (v := ?_) rfl (by kernel_rfl) (by kernel_rfl) (by kernel_rfl) (fun _ _ _ h => h) (Or.inl ⟨by rfl, ?ycc7⟩) (by assumption) ?qcc7
                          case ycc7 => (intro wz hSw; (try dsimp only at hSw); go_simp <;> with_reducible rfl)
                          try simp only [Act.put, List.getElem_toArray, List.getElem_cons_zero, List.getElem_cons_succ, List.setIfInBounds_toArray, List.set_cons_zero, List.set_cons_succ]
                          refine wpAnyH_take (i := 8) (v := ?_) rfl (by kernel_rfl) (by kernel_rfl) (by kernel_rfl) (fun _ _ _ h => h) (Or.inl ⟨by rfl, ?ycc8⟩) (by assumption) ?qcc8
                          case ycc8 => (intro wz hSw; (try dsimp only at hSw); go_simp <;> with_reducible rfl)
                          try simp only [Act.put, List.getElem_toArray, List.getElem_cons_zero, List.getElem_cons_succ, List.setIfInBounds_toArray, List.set_cons_zero, List.set_cons_succ]
                          refine wpAnyH_take (i := 9) (v := ?_) rfl (by kernel_rfl) (by kernel_rfl) (by kernel_rfl) (fun _ _ _ h => h) (Or.inl ⟨by rfl, ?ycc9⟩) (by assumption) ?qcc9
                          case ycc9 => (intro wz hSw; (try dsimp only at hSw); go_simp <;> with_reducible rfl)
                          try simp only [Act.put, List.getElem_toArray, List.getElem_cons_zero, List.getElem_cons_succ, List.setIfInBounds_toArray, List.set_cons_zero, List.set_cons_succ]
                          refine wpAnyH_take (i := 10) (v := ?_) rfl (by kernel_rfl) (by kernel_rfl) (by kernel_rfl) (fun _ _ _ h => h) (Or.inl ⟨by rfl, ?ycc10⟩) (by assumption) ?qcc10
                          case ycc10 => (intro wz hSw; (try dsimp only at hSw); go_simp <;> with_reducible rfl)
                          try simp only [Act.put, List.getElem_toArray, List.getElem_cons_zero, List.getElem_cons_succ, List.setIfInBounds_toArray, List.set_cons_zero, List.set_cons_succ]
                          refine wpAnyH_take (i := 11) (v := ?_) rfl (by kernel_rfl) (by kernel_rfl) (by kernel_rfl) (fun _ _ _ h => h) (Or.inl ⟨by rfl, ?ycc11⟩) (by assumption) ?qcc11
                          case ycc11 => (intro wz hSw; (try dsimp only at hSw); go_simp <;> with_reducible rfl)
                          try simp only [Act.put, List.getElem_toArray, List.getElem_cons_zero, List.getElem_cons_succ, List.setIfInBounds_toArray, List.set_cons_zero, List.set_cons_succ]
                          refine wpAnyH_take (i := 12) (v := ?_) rfl (by kernel_rfl) (by kernel_rfl) (by kernel_rfl) (fun _ _ _ h => h) (Or.inl ⟨by rfl, ?ycc12⟩) (by assumption) ?qcc12
                          case ycc12 => (intro wz hSw; (try dsimp only at hSw); go_simp <;> with_reducible rfl)
                          try simp only [Act.put, List.getElem_toArray, List.getElem_cons_zero, List.getElem_cons_succ, List.setIfInBounds_toArray, List.set_cons_zero, List.set_cons_succ]
                          refine wpAnyH_take (i := 13) (v := ?_) rfl (by kernel_rfl) (by kernel_rfl) (by kernel_rfl) (fun _ _ _ h => h) (Or.inl ⟨by rfl, ?ycc13⟩) (by assumption) ?qcc13
                          case ycc13 => (intro wz hSw; (try dsimp only at hSw); go_simp <;> with_reducible rfl)
                          try simp only [Act.put, List.getElem_toArray, List.getElem_cons_zero, List.getElem_cons_succ, List.setIfInBounds_toArray, List.set_cons_zero, List.set_cons_succ]
                          refine wpAnyH_take (i := 14) (v := ?_) rfl (by kernel_rfl) (by kernel_rfl) (by kernel_rfl) (fun _ _ _ h => h) (Or.inl ⟨by rfl, ?ycc14⟩) (by assumption) ?qcc14
                          case ycc14 => (intro wz hSw; (try dsimp only at hSw); go_simp <;> with_reducible rfl)
                          try simp only [Act.put, List.getElem_toArray, List.getElem_cons_zero, List.getElem_cons_succ, List.setIfInBounds_toArray, List.set_cons_zero, List.set_cons_succ]
                          refine wpAnyH_take (i := 15) (v := ?_) rfl (by kernel_rfl) (by kernel_rfl) (by kernel_rfl) (fun _ _ _ h => h) (Or.inl ⟨by rfl, ?ycc15⟩) (by assumption) ?qcc15
                          case ycc15 => (intro wz hSw; (try dsimp only at hSw); go_simp <;> with_reducible rfl)
                          try simp only [Act.put, List.getElem_toArray, List.getElem_cons_zero, List.getElem_cons_succ, List.setIfInBounds_toArray, List.set_cons_zero, List.set_cons_succ]
                          refine wpAnyH_take (i := 16) (v := ?_) rfl (by kernel_rfl) (by kernel_rfl) (by kernel_rfl) (fun _ _ _ h => h) (Or.inl ⟨by rfl, ?ycc16⟩) (by assumption) ?qcc16
                          case ycc16 => (intro wz hSw; (try dsimp only at hSw); go_simp <;> with_reducible rfl)
                          try simp only [Act.put, List.getElem_toArray, List.getElem_cons_zero, List.getElem_cons_succ, List.setIfInBounds_toArray, List.set_cons_zero, List.set_cons_succ]
                          refine wpAnyH_take (i := 17) (v := undef) rfl (by kernel_rfl) (by kernel_rfl) (by kernel_rfl) (fun _ _ _ h => h) (Or.inr ⟨by rfl, rfl⟩) (by assumption) ?_
                          try simp only [Act.put, List.getElem_toArray, List.getElem_cons_zero, List.getElem_cons_succ, List.setIfInBounds_toArray, List.set_cons_zero, List.set_cons_succ]
                          refine wpAnyH_take (i := 18) (v := undef) rfl (by kernel_rfl) (by kernel_rfl) (by kernel_rfl) (fun _ _ _ h => h) (Or.inr ⟨by rfl, rfl⟩) (by assumption) ?_
                          try simp only [Act.put, List.getElem_toArray, List.getElem_cons_zero, List.getElem_cons_succ, List.setIfInBounds_toArray, List.set_cons_zero, List.set_cons_succ]
                          refine wpAnyH_take (i := 19) (v := undef) rfl (by kernel_rfl) (by kernel_rfl) (by kernel_rfl) (fun _ _ _ h => h) (Or.inr ⟨by rfl, rfl⟩) (by assumption) ?_
                          try simp only [Act.put, List.getElem_toArray, List.getElem_cons_zero, List.getElem_cons_succ, List.setIfInBounds_toArray, List.set_cons_zero, List.set_cons_succ]
                          refine wpAnyH_take (i := 20) (v := undef) rfl (by kernel_rfl) (by kernel_rfl) (by kernel_rfl) (fun _ _ _ h => h) (Or.inr ⟨by rfl, rfl⟩) (by assumption) ?_
                          try simp only [Act.put, List.getElem_toArray, List.getElem_cons_zero, List.getElem_cons_succ, List.setIfInBounds_toArray, List.set_cons_zero, List.set_cons_succ]
                          refine wpAnyH_take (i := 21) (v := undef) rfl (by kernel_rfl) (by kernel_rfl) (by kernel_rfl) (fun _ _ _ h => h) (Or.inr ⟨by rfl, rfl⟩) (by assumption) ?_
                          try simp only [Act.put, List.getElem_toArray, List.getElem_cons_zero, List.getElem_cons_succ, List.setIfInBounds_toArray, List.set_cons_zero, List.set_cons_succ]
                          refine wpAnyH_take (i := 22) (v := undef) rfl (by kernel_rfl) (by kernel_rfl) (by kernel_rfl) (fun _ _ _ h => h) (Or.inr ⟨by rfl, rfl⟩) (by assumption) ?_
                          try simp only [Act.put, List.getElem_toArray, List.getElem_cons_zero, List.getElem_cons_succ, List.setIfInBounds_toArray, List.set_cons_zero, List.set_cons_succ]
                          refine wpAnyH_take (i := 23) (v := undef) rfl (by kernel_rfl) (by kernel_rfl) (by kernel_rfl) (fun _ _ _ h => h) (Or.inr ⟨by rfl, rfl⟩) (by assumption) ?_
                          try simp only [Act.put, List.getElem_toArray, List.getElem_cons_zero, List.getElem_cons_succ, List.setIfInBounds_toArray, List.set_cons_zero, List.set_cons_succ]
                          refine wpAnyH_take (i := 24) (v := undef) rfl (by kernel_rfl) (by kernel_rfl) (by kernel_rfl) (fun _ _ _ h => h) (Or.inr ⟨by rfl, rfl⟩) (by assumption) ?_
                          try simp only [Act.put, List.getElem_toArray, List.getElem_cons_zero, List.getElem_cons_succ, List.setIfInBounds_toArray, List.set_cons_zero, List.set_cons_succ]
                          refine wpAnyH_take (i := 25) (v := ?_) rfl (by kernel_rfl) (by kernel_rfl) (by kernel_rfl) (fun _ _ _ h => h) (Or.inl ⟨by rfl, ?ycc25⟩) (by assumption) ?qcc25
                          case ycc25 => (intro wz hSw; (try dsimp only at hSw); go_simp <;> with_reducible rfl)
                          try simp only [Act.put, List.getElem_toArray, List.getElem_cons_zero, List.getElem_cons_succ, List.setIfInBounds_toArray, List.set_cons_zero, List.set_cons_succ]
                          refine wpAnyH_done (by kernel_rfl) ?_ _
                          clear hHeld0 HCD H0
                          go_wp2_with fail
                          go_roundw
                          case rel => exact ⟨j + 1, by go_num, by rw [HN.out], by omega, HAD⟩
                          case measure => simp [intOf]; omega
                      · have hb2 : (xk == x3) = false := by simp [hk]
                        have HN : Hid (FB (j + 1) = FB j) := Lib.hid (by have := HFX.out.1; simpa [hk] using this)
                        clear HFX HWR hk
                        go_upto_region 14 with fail
                        rw [← hZ]
                        clear hZ f0 f1 f2 f3
                        refine wp_region_held_drew (S := fun Z => (Z.cell? ⟨wB.heap.size, 0, none⟩ = some (.bool true) ∧ Z.cell? ⟨wB.heap.size, 1, none⟩ = some (.int .i64 xk) ∧ Z.cell? ⟨wB.heap.size, 2, none⟩ = some (.int .i64 xt) ∧ Z.cell? ⟨wB.heap.size, 3, none⟩ = some (.int .i64 xn)) ∧ (Z.cell? ⟨w.heap.size + 1, 0, none⟩ = some (.int .i64 x0) ∧ Z.cell? ⟨w.heap.size + 1, 3, none⟩ = some (.int .i64 x3)) ∧ Z.cell? ⟨w5.heap.size, 2, none⟩ = some (.slice spa an sca)) (by kernel_rfl) (hD ▸ H0.out) (fun hHeld0 => ?_)
                        rw [← hD] at hHeld0 ⊢
                        clear hD
                        refine wpAnyH_take (i := 0) (v := ?_) rfl (by kernel_rfl) (by kernel_rfl) (by kernel_rfl) (fun _ _ _ h => h) (Or.inl ⟨by rfl, ?ycb0⟩) (by assumption) ?qcb0
                        case ycb0 => (intro wz hSw; (try dsimp only at hSw); go_simp <;> with_reducible rfl)
                        try simp only [Act.put, List.getElem_toArray, List.getElem_cons_zero, List.setIfInBounds_toArray, List.set_cons_zero, List.set_cons_succ]
                        refine wpAnyH_take (i := 1) (v := ?_) rfl (by kernel_rfl) (by kernel_rfl) (by kernel_rfl) (fun _ _ _ h => h) (Or.inl ⟨by rfl, ?ycb1⟩) (by assumption) ?qcb1
                        case ycb1 => (intro wz hSw; (try dsimp only at hSw); go_simp <;> with_reducible rfl)
                        try simp only [Act.put, List.getElem_toArray, List.getElem_cons_zero, List.getElem_cons_succ, List.setIfInBounds_toArray, List.set_cons_zero, List.set_cons_succ]
                        refine wpAnyH_take (i := 2) (v := ?_) rfl (by kernel_rfl) (by kernel_rfl) (by kernel_rfl) (fun _ _ _ h => h) (Or.inl ⟨by rfl, ?ycb2⟩) (by assumption) ?qcb2
                        case ycb2 => (intro wz hSw; (try dsimp only at hSw); go_simp <;> with_reducible rfl)
                        try simp only [Act.put, List.getElem_toArray, List.getElem_cons_zero, List.getElem_cons_succ, List.setIfInBounds_toArray, List.set_cons_zero, List.set_cons_succ]
                        refine wpAnyH_take (i := 3) (v := ?_) rfl (by kernel_rfl) (by kernel_rfl) (by kernel_rfl) (fun _ _ _ h => h) (Or.inl ⟨by rfl, ?ycb3⟩) (by assumption) ?qcb3
                        case ycb3 => (intro wz hSw; (try dsimp only at hSw); go_simp <;> with_reducible rfl)
                        try simp only [Act.put, List.getElem_toArray, List.getElem_cons_zero, List.getElem_cons_succ, List.setIfInBounds_toArray, List.set_cons_zero, List.set_cons_succ]
                        refine wpAnyH_take (i := 4) (v := ?_) rfl (by kernel_rfl) (by kernel_rfl) (by kernel_rfl) (fun _ _ _ h => h) (Or.inl ⟨by rfl, ?ycb4⟩) (by assumption) ?qcb4
                        case ycb4 => (intro wz hSw; (try dsimp only at hSw); go_simp <;> with_reducible rfl)
                        try simp only [Act.put, List.getElem_toArray, List.getElem_cons_zero, List.getElem_cons_succ, List.setIfInBounds_toArray, List.set_cons_zero, List.set_cons_succ]
                        refine wpAnyH_take (i := 5) (v := ?_) rfl (by kernel_rfl) (by kernel_rfl) (by kernel_rfl) (fun _ _ _ h => h) (Or.inl ⟨by rfl, ?ycb5⟩) (by assumption) ?qcb5
                        case ycb5 => (intro wz hSw; (try dsimp only at hSw); go_simp <;> with_reducible rfl)
                        try simp only [Act.put, List.getElem_toArray, List.getElem_cons_zero, List.getElem_cons_succ, List.setIfInBounds_toArray, List.set_cons_zero, List.set_cons_succ]
                        refine wpAnyH_take (i := 6) (v := ?_) rfl (by kernel_rfl) (by kernel_rfl) (by kernel_rfl) (fun _ _ _ h => h) (Or.inl ⟨by rfl, ?ycb6⟩) (by assumption) ?qcb6
                        case ycb6 => (intro wz hSw; (try dsimp only at hSw); go_simp <;> with_reducible rfl)
                        try simp only [Act.put, List.getElem_toArray, List.getElem_cons_zero, List.getElem_cons_succ, List.setIfInBounds_toArray, List.set_cons_zero, List.set_cons_succ]
                        refine wpAnyH_take (i := 7) (v := ?_) rfl (by kernel_rfl) (by kernel_rfl) (by kernel_rfl) (fun _ _ _ h => h) (Or.inl ⟨by rfl, ?ycb7⟩) (by assumption) ?qcb7
                        case ycb7 => (intro wz hSw; (try dsimp only at hSw); go_simp <;> with_reducible rfl)
                        try simp only [Act.put, List.getElem_toArray, List.getElem_cons_zero, List.getElem_cons_succ, List.setIfInBounds_toArray, List.set_cons_zero, List.set_cons_succ]
                        refine wpAnyH_take (i := 8) (v := ?_) rfl (by kernel_rfl) (by kernel_rfl) (by kernel_rfl) (fun _ _ _ h => h) (Or.inl ⟨by rfl, ?ycb8⟩) (by assumption) ?qcb8
                        case ycb8 => (intro wz hSw; (try dsimp only at hSw); go_simp <;> with_reducible rfl)
                        try simp only [Act.put, List.getElem_toArray, List.getElem_cons_zero, List.getElem_cons_succ, List.setIfInBounds_toArray, List.set_cons_zero, List.set_cons_succ]
                        refine wpAnyH_take (i := 9) (v := ?_) rfl (by kernel_rfl) (by kernel_rfl) (by kernel_rfl) (fun _ _ _ h => h) (Or.inl ⟨by rfl, ?ycb9⟩) (by assumption) ?qcb9
                        case ycb9 => (intro wz hSw; (try dsimp only at hSw); go_simp <;> with_reducible rfl)
                        try simp only [Act.put, List.getElem_toArray, List.getElem_cons_zero, List.getElem_cons_succ, List.setIfInBounds_toArray, List.set_cons_zero, List.set_cons_succ]
                        refine wpAnyH_take (i := 10) (v := undef) rfl (by kernel_rfl) (by kernel_rfl) (by kernel_rfl) (fun _ _ _ h => h) (Or.inr ⟨by rfl, rfl⟩) (by assumption) ?_
                        try simp only [Act.put, List.getElem_toArray, List.getElem_cons_zero, List.getElem_cons_succ, List.setIfInBounds_toArray, List.set_cons_zero, List.set_cons_succ]
                        refine wpAnyH_take (i := 11) (v := undef) rfl (by kernel_rfl) (by kernel_rfl) (by kernel_rfl) (fun _ _ _ h => h) (Or.inr ⟨by rfl, rfl⟩) (by assumption) ?_
                        try simp only [Act.put, List.getElem_toArray, List.getElem_cons_zero, List.getElem_cons_succ, List.setIfInBounds_toArray, List.set_cons_zero, List.set_cons_succ]
                        refine wpAnyH_take (i := 12) (v := undef) rfl (by kernel_rfl) (by kernel_rfl) (by kernel_rfl) (fun _ _ _ h => h) (Or.inr ⟨by rfl, rfl⟩) (by assumption) ?_
                        try simp only [Act.put, List.getElem_toArray, List.getElem_cons_zero, List.getElem_cons_succ, List.setIfInBounds_toArray, List.set_cons_zero, List.set_cons_succ]
                        refine wpAnyH_take (i := 13) (v := undef) rfl (by kernel_rfl) (by kernel_rfl) (by kernel_rfl) (fun _ _ _ h => h) (Or.inr ⟨by rfl, rfl⟩) (by assumption) ?_
                        try simp only [Act.put, List.getElem_toArray, List.getElem_cons_zero, List.getElem_cons_succ, List.setIfInBounds_toArray, List.set_cons_zero, List.set_cons_succ]
                        refine wpAnyH_take (i := 14) (v := undef) rfl (by kernel_rfl) (by kernel_rfl) (by kernel_rfl) (fun _ _ _ h => h) (Or.inr ⟨by rfl, rfl⟩) (by assumption) ?_
                        try simp only [Act.put, List.getElem_toArray, List.getElem_cons_zero, List.getElem_cons_succ, List.setIfInBounds_toArray, List.set_cons_zero, List.set_cons_succ]
                        refine wpAnyH_take (i := 15) (v := ?_) rfl (by kernel_rfl) (by kernel_rfl) (by kernel_rfl) (fun _ _ _ h => h) (Or.inl ⟨by rfl, ?ycb15⟩) (by assumption) ?qcb15
                        case ycb15 => (intro wz hSw; (try dsimp only at hSw); go_simp <;> with_reducible rfl)
                        try simp only [Act.put, List.getElem_toArray, List.getElem_cons_zero, List.getElem_cons_succ, List.setIfInBounds_toArray, List.set_cons_zero, List.set_cons_succ]
                        refine wpAnyH_take (i := 16) (v := ?_) rfl (by kernel_rfl) (by kernel_rfl) (by kernel_rfl) (fun _ _ _ h => h) (Or.inl ⟨by rfl, ?ycb16⟩) (by assumption) ?qcb16
                        case ycb16 => (intro wz hSw; (try dsimp only at hSw); go_simp <;> with_reducible rfl)
                        try simp only [Act.put, List.getElem_toArray, List.getElem_cons_zero, List.getElem_cons_succ, List.setIfInBounds_toArray, List.set_cons_zero, List.set_cons_succ]
                        refine wpAnyH_take (i := 17) (v := undef) rfl (by kernel_rfl) (by kernel_rfl) (by kernel_rfl) (fun _ _ _ h => h) (Or.inr ⟨by rfl, rfl⟩) (by assumption) ?_
                        try simp only [Act.put, List.getElem_toArray, List.getElem_cons_zero, List.getElem_cons_succ, List.setIfInBounds_toArray, List.set_cons_zero, List.set_cons_succ]
                        refine wpAnyH_take (i := 18) (v := undef) rfl (by kernel_rfl) (by kernel_rfl) (by kernel_rfl) (fun _ _ _ h => h) (Or.inr ⟨by rfl, rfl⟩) (by assumption) ?_
                        try simp only [Act.put, List.getElem_toArray, List.getElem_cons_zero, List.getElem_cons_succ, List.setIfInBounds_toArray, List.set_cons_zero, List.set_cons_succ]
                        refine wpAnyH_take (i := 19) (v := undef) rfl (by kernel_rfl) (by kernel_rfl) (by kernel_rfl) (fun _ _ _ h => h) (Or.inr ⟨by rfl, rfl⟩) (by assumption) ?_
                        try simp only [Act.put, List.getElem_toArray, List.getElem_cons_zero, List.getElem_cons_succ, List.setIfInBounds_toArray, List.set_cons_zero, List.set_cons_succ]
                        refine wpAnyH_take (i := 20) (v := undef) rfl (by kernel_rfl) (by kernel_rfl) (by kernel_rfl) (fun _ _ _ h => h) (Or.inr ⟨by rfl, rfl⟩) (by assumption) ?_
                        try simp only [Act.put, List.getElem_toArray, List.getElem_cons_zero, List.getElem_cons_succ, List.setIfInBounds_toArray, List.set_cons_zero, List.set_cons_succ]
                        refine wpAnyH_take (i := 21) (v := undef) rfl (by kernel_rfl) (by kernel_rfl) (by kernel_rfl) (fun _ _ _ h => h) (Or.inr ⟨by rfl, rfl⟩) (by assumption) ?_
                        try simp only [Act.put, List.getElem_toArray, List.getElem_cons_zero, List.getElem_cons_succ, List.setIfInBounds_toArray, List.set_cons_zero, List.set_cons_succ]
                        refine wpAnyH_take (i := 22) (v := undef) rfl (by kernel_rfl) (by kernel_rfl) (by kernel_rfl) (fun _ _ _ h => h) (Or.inr ⟨by rfl, rfl⟩) (by assumption) ?_
                        try simp only [Act.put, List.getElem_toArray, List.getElem_cons_zero, List.getElem_cons_succ, List.setIfInBounds_toArray, List.set_cons_zero, List.set_cons_succ]
                        refine wpAnyH_take (i := 23) (v := undef) rfl (by kernel_rfl) (by kernel_rfl) (by kernel_rfl) (fun _ _ _ h => h) (Or.inr ⟨by rfl, rfl⟩) (by assumption) ?_
                        try simp only [Act.put, List.getElem_toArray, List.getElem_cons_zero, List.getElem_cons_succ, List.setIfInBounds_toArray, List.set_cons_zero, List.set_cons_succ]
                        refine wpAnyH_take (i := 24) (v := undef) rfl (by kernel_rfl) (by kernel_rfl) (by kernel_rfl) (fun _ _ _ h => h) (Or.inr ⟨by rfl, rfl⟩) (by assumption) ?_
                        try simp only [Act.put, List.getElem_toArray, List.getElem_cons_zero, List.getElem_cons_succ, List.setIfInBounds_toArray, List.set_cons_zero, List.set_cons_succ]
                        refine wpAnyH_take (i := 25) (v := ?_) rfl (by kernel_rfl) (by kernel_rfl) (by kernel_rfl) (fun _ _ _ h => h) (Or.inl ⟨by rfl, ?ycb25⟩) (by assumption) ?qcb25
                        case ycb25 => (intro wz hSw; (try dsimp only at hSw); go_simp <;> with_reducible rfl)
                        try simp only [Act.put, List.getElem_toArray, List.getElem_cons_zero, List.getElem_cons_succ, List.setIfInBounds_toArray, List.set_cons_zero, List.set_cons_succ]
                        refine wpAnyH_done (by kernel_rfl) ?_ _
                        clear hHeld0 HCD H0
                        go_wp2_with fail
                        go_roundw
                        case rel => exact ⟨j + 1, by go_num, by rw [HN.out], by omega, HAD⟩
                        case measure => simp [intOf]; omega
                  · have hje : j = bn := by omega
                    have HF : Hid (Post (.returned (.int .i64 ((rc : Nat) : Int))) wB) := Lib.hid (HE.out wB _ (HA7.out.trans HW.out) rfl)
                    obtain ⟨⟨_, ⟨d0, d1, d2, d3⟩, hxs⟩, _⟩ := HZ0.out wB (HA7.out.trans HW.out)
                    rw [hje, HFE.out.2]
                    clear HW hlt2 hj HE
                    have hjI : ¬ (bn : Int) < (bn : Int) := by omega
                    go_wp2_with fail
                    exact HF.out
              · have hb2 : (x2 == 2) = false := by simp [h2]
                by_cases h3 : x2 = 3
                · subst h3
                  obtain ⟨FB, hFB⟩ : ∃ f : Nat → Nat, f = fun j => ((al.take j).filter (p3 h ai ⟨x0, x1, 3, x3⟩)).length := ⟨_, rfl⟩
                  have HFJ : Hid (∀ j, j < an → FB (j + 1) = FB j + (if p3 h ai ⟨x0, x1, 3, x3⟩ (al.getD j Opr.zero) = true then 1 else 0) ∧ FB j ≤ 100) := Lib.hid fun j hj => by
                    rw [hFB]
                    refine ⟨filter_takeD _ Opr.zero al j (by rw [← HAN.out]; exact hj), Nat.le_trans (List.length_filter_le _ _) ?_⟩
                    rw [List.length_take]; have := HQA.out.2; omega
                  have HFE : Hid (FB 0 = 0 ∧ FB an = rc) := Lib.hid ⟨by rw [hFB]; rfl, by
                    rw [HRN.out, hFB]
                    show ((al.take an).filter _).length = _
                    rw [HAN.out, List.take_length]
                    rfl⟩
                  have HJ0 : Hid (Aft w7 w7) := Lib.hid (Aft.refl _)
                  clear hFB HRN
                  go_wp2_with fail
                  clear c0 c1 d0 d1 d2 d3 hxs a0 a1 a2 hal b0 b1 b2 hbl
                  go_loopw [12, 124] (fun s12 s124 wr => ∃ j : Nat, s124 = .int .i64 (j : Int) ∧ s12 = .int .i64 ((FB j : Nat) : Int) ∧ j ≤ an ∧ Hid (Aft w7 wr)) (fun _ s124 _ => an - (intOf s124).toNat)
                  case atStart => exact ⟨0, rfl, by rw [HFE.out.1]; rfl, Nat.zero_le _, HJ0⟩
                  case round =>
                    clear HJ0
                    obtain ⟨j, rfl, rfl, hj, HW⟩ := hrel
                    obtain ⟨wB, hwB⟩ : ∃ wB, wB = wr := ⟨_, rfl⟩
                    subst hwB
                    by_cases hlt2 : j < an
                    · have haz := HA7.out.trans HW.out
                      have hltl : j < al.length := by rw [← HAN.out]; exact hlt2
                      obtain ⟨p', c', e, _, hc⟩ := (HQA.out.1 _ haz).open_
                      injection e with e1 e2 e3
                      subst e1 e3
                      clear e2
                      obtain ⟨g2, o2, rfl, _, hg2, f0, f1, f2, f3⟩ := hc j hltl
                      clear hc
                      have hjI : (j : Int) < (an : Int) := by omega
                      have HFX := Lib.hid (HFJ.out j hlt2)
                      generalize al.getD j Opr.zero = x at f0 f1 f2 f3 HFX
                      obtain ⟨xr, xk, xt, xn⟩ := x
                      unfold p3 at HFX
                      dsimp only at f0 f1 f2 f3 HFX
                      obtain ⟨Z, hZ⟩ : ∃ Z, Z = wB.alloc (.cells #[.bool xr, .int .i64 xk, .int .i64 xt, .int .i64 xn] 57) := ⟨_, rfl⟩
                      have HZB : Hid (Aft w7 Z) := Lib.hid (by rw [hZ]; exact HW.out.lay _)
                      have HZX : Hid (Z.heap[wB.heap.size]? = some (.cells #[.bool xr, .int .i64 xk, .int .i64 xt, .int .i64 xn] 57)) := Lib.hid (by rw [hZ]; exact heap_alloc_at _ _ _ rfl)
                      unfold nxB at HFX
                      have HLS := Lib.hid (HLT.out Z (HA7.out.trans HZB.out) ⟨xr, xk, xt, xn⟩)
                      dsimp only at HLS
                      obtain ⟨⟨⟨c0, c1⟩, ⟨d0, d1, d2, d3⟩, hxs⟩, ⟨⟨a0, a1, a2⟩, hal⟩, _⟩ := HZ0.out Z (HA7.out.trans HZB.out)
                      have m : Z.cell? ⟨wB.heap.size, 0, none⟩ = some (.bool xr) ∧ Z.cell? ⟨wB.heap.size, 1, none⟩ = some (.int .i64 xk) ∧ Z.cell? ⟨wB.heap.size, 2, none⟩ = some (.int .i64 xt) ∧ Z.cell? ⟨wB.heap.size, 3, none⟩ = some (.int .i64 xn) := by simp [World.cell?, HZX.out]
                      obtain ⟨m0, m1, m2, m3⟩ := m
                      have hzl := heap_lt HZX.out
                      generalize lastB h ⟨xr, xk, xt, xn⟩ = lb at HFX HLS
                      clear HW haz hg2
                      go_upto_region 21 with fail
                      rw [← hZ]
                      clear hZ f0 f1 f2 f3
                      cases xr with
                      | false =>
                        have HN : Hid (FB (j + 1) = FB j) := Lib.hid (by have := HFX.out.1; simpa using this)
                        clear HFX HLS
                        go_wp2_with fail
                        go_roundw
                        case rel => exact ⟨j + 1, by go_num, by rw [HN.out], by omega, HZB⟩
                        case measure => simp [intOf]; omega
                      | true =>
                        by_cases hk : xk = x3
                        · have hb4 : (xk == x3) = true := by simp [hk]
                          by_cases ht : xt = ai
                          · have hb5 : (xt != ai) = false := by simp [ht]
                            have HN : Hid (FB (j + 1) = FB j) := Lib.hid (by have := HFX.out.1; simpa [ht] using this)
                            clear HFX HLS hk ht
                            go_wp2_with fail
                            go_roundw
                            case rel => exact ⟨j + 1, by go_num, by rw [HN.out], by omega, HZB⟩
                            case measure => simp [intOf]; omega
                          · have hb5 : (xt != ai) = true := by simp [ht]
                            have HKT : Hid (xk = x3 ∧ xt ≠ ai) := Lib.hid ⟨hk, ht⟩
                            clear hk ht
                            go_wp2_with fail
                            refine HLS.out.mono ?_
                            rintro e w9 ⟨rfl, ha9⟩
                            have HZ9 : Hid (Aft w7 w9) := Lib.hid (HZB.out.trans ha9)
                            have HX9 : Hid (w9.heap[wB.heap.size]? = some (.cells #[.bool true, .int .i64 xk, .int .i64 xt, .int .i64 xn] 57)) := Lib.hid ((ha9.block _ (heap_lt HZX.out)).trans HZX.out)
                            clear ha9 c0 c1 d0 d1 d2 d3 hxs a0 a1 a2 hal m0 m1 m2 m3 hzl HLS
                            cases lb with
                            | false =>
                              have HN : Hid (FB (j + 1) = FB j) := Lib.hid (by have := HFX.out.1; simpa using this)
                              clear HFX
                              go_wp2_with fail
                              go_roundw
                              case rel => exact ⟨j + 1, by go_num, by rw [HN.out], by omega, HZ9⟩
                              case measure => simp [intOf]; omega
                            | true =>
                              obtain ⟨⟨_, ⟨d0, d1, d2, d3⟩, hxs⟩, _⟩ := HZ0.out w9 (HA7.out.trans HZ9.out)
                              have m : w9.cell? ⟨wB.heap.size, 0, none⟩ = some (.bool true) ∧ w9.cell? ⟨wB.heap.size, 1, none⟩ = some (.int .i64 xk) ∧ w9.cell? ⟨wB.heap.size, 2, none⟩ = some (.int .i64 xt) ∧ w9.cell? ⟨wB.heap.size, 3, none⟩ = some (.int .i64 xn) := by simp [World.cell?, HX9.out]
                              obtain ⟨m0, m1, m2, m3⟩ := m
                              have hzl := heap_lt HX9.out
                              go_wp2_with fail
                              refine (HNX.out w9 xt HZ9.out).mono ?_
                              rintro e w10 ⟨rfl, rfl⟩
                              generalize Om.nextV (ordL h.ords x3) xt = nv2 at HFX ⊢
                              generalize Om.nextB (ordL h.ords x3) xt = nb2 at HFX ⊢
                              cases nb2 with
                              | false =>
                                have HN : Hid (FB (j + 1) = FB j) := Lib.hid (by have := HFX.out.1; simpa using this)
                                clear HFX
                                go_wp2_with fail
                                go_roundw
                                case rel => exact ⟨j + 1, by go_num, by rw [HN.out], by omega, HZ9⟩
                                case measure => simp [intOf]; omega
                              | true =>
                                by_cases hv : nv2 = x1
                                · have hb6 : (nv2 == x1) = true := by simp [hv]
                                  have HN1 : Hid (FB (j + 1) = FB j + 1 ∧ FB j ≤ 100) := Lib.hid ⟨by have := HFX.out.1; simpa [HKT.out.1, HKT.out.2, hv] using this, HFX.out.2⟩
                                  have hw : IntKind.i64.wrap (((FB j : Nat) : Int) + 1) = ((FB (j + 1) : Nat) : Int) := by have h3 := HN1.out.1; have h4 := HN1.out.2; rw [IntKind.wrap_i64] <;> omega
                                  clear HFX HN1 hv
                                  go_wp2_with fail
                                  go_roundw
                                  case rel => exact ⟨j + 1, by go_num, by first | rfl | rw [hw] | simp [hw], by omega, HZ9⟩
                                  case measure => simp [intOf]; omega
                                · have hb6 : (nv2 == x1) = false := by simp [hv]
                                  have HN : Hid (FB (j + 1) = FB j) := Lib.hid (by have := HFX.out.1; simpa [hv] using this)
                                  clear HFX hv
                                  go_wp2_with fail
                                  go_roundw
                                  case rel => exact ⟨j + 1, by go_num, by rw [HN.out], by omega, HZ9⟩
                                  case measure => simp [intOf]; omega
                        · have hb4 : (xk == x3) = false := by simp [hk]
                          have HN : Hid (FB (j + 1) = FB j) := Lib.hid (by have := HFX.out.1; simpa [hk] using this)
                          clear HFX HLS hk
                          go_wp2_with fail
                          go_roundw
                          case rel => exact ⟨j + 1, by go_num, by rw [HN.out], by omega, HZB⟩
                          case measure => simp [intOf]; omega
                    · have hje : j = an := by omega
                      have HF : Hid (Post (.returned (.int .i64 ((rc : Nat) : Int))) wB) := Lib.hid (HE.out wB _ (HA7.out.trans HW.out) rfl)
                      rw [hje, HFE.out.2]
                      clear HW hlt2 hj HE
                      have hjI : ¬ (an : Int) < (an : Int) := by omega
                      go_wp2_with fail
                      exact HF.out
                · have hb3 : (x2 == 3) = false := by simp [h3]
                  have HF := Lib.hid (HE.out w7 0 HA7.out (by rw [HRN.out]; unfold refN; simp [h1, h2, h3]))
                  clear HE HZ0 HRN HLT HNX h1 h2 h3
                  go_wp2_with fail
                  exact HF.out
end Go.Proofs.YtcmafmdcgkpagaaGreat.Dg
