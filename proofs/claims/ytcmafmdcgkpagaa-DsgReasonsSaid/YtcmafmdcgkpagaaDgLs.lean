/-
  Contract of the document's Last. Not a statement of the seat.
-/
import Derived.Test.YtcmafmdcgkpagaaHead19
import Derived.Test.YtcmafmdcgkpagaaHead5
import Derived.Test.YtcmafmdcgkpagaaHead6
import Derived.Deep.RegionHeld3
namespace Go.Proofs.Ytcmafmdcgkpagaa.Dg
open Go.ChangeShapes Go.WideShapes Go.ChangeAt Go.RowKit Base F Tx Hi
set_option maxRecDepth 100000 in
set_option maxHeartbeats 8000000 in
theorem last_any {v u : Value} {h : Hist} (w : World) (hh : HistV w v u h) (hs : HistSm h) (o : Opr) : Calls Try.prog 11 #[.agg #[v, u], .agg #[.bool o.rd, .int .i64 o.k, .int .i64 o.t, .int .i64 o.n]] w (BoolNew (lastB h o) w) := by
  obtain ⟨p, c, hv, _⟩ := hh.1.form
  obtain ⟨q, d, hu, _⟩ := hh.2.form
  subst hv hu
  obtain ⟨xr, xk, xt, xn⟩ := o
  dsimp only
  obtain ⟨X, hX⟩ : ∃ X, X = (w.alloc (.cells #[.slice p h.txs.length c, .slice q h.ords.length d] 25)).alloc (.cells #[.bool xr, .int .i64 xk, .int .i64 xt, .int .i64 xn] 41) := ⟨_, rfl⟩
  have HA : Hid (Aft w X) := Lib.hid (by rw [hX]; exact (Aft.one _).lay _)
  have HC : Hid (∀ Z, Aft X Z → (Z.cell? ⟨w.heap.size, 0, none⟩ = some (.slice p h.txs.length c) ∧ Z.cell? ⟨w.heap.size, 1, none⟩ = some (.slice q h.ords.length d)) ∧ Z.cell? ⟨w.heap.size + 1, 0, none⟩ = some (.bool xr) ∧ Z.cell? ⟨w.heap.size + 1, 1, none⟩ = some (.int .i64 xk) ∧ Z.cell? ⟨w.heap.size + 1, 2, none⟩ = some (.int .i64 xt) ∧ Z.cell? ⟨w.heap.size + 1, 3, none⟩ = some (.int .i64 xn)) := Lib.hid fun Z hZ => by
    have e0 : X.heap[w.heap.size]? = some (.cells #[.slice p h.txs.length c, .slice q h.ords.length d] 25) := by rw [hX]; exact heap_alloc_lt _ _ _ _ (heap_alloc_at _ _ _ rfl)
    have e1 : X.heap[w.heap.size + 1]? = some (.cells #[.bool xr, .int .i64 xk, .int .i64 xt, .int .i64 xn] 41) := by rw [hX]; exact heap_alloc_at _ _ _ (by simp)
    have k0 := (hZ.block _ (heap_lt e0)).trans e0
    have k1 := (hZ.block _ (heap_lt e1)).trans e1
    simp [World.cell?, k0, k1]
  have HF := Lib.hid (rfind_any xt X (hh.below HA.out))
  have HXS : Hid (w.heap.size + 1 < X.heap.size) := Lib.hid (by rw [hX]; simp)
  have HOL : Hid (∀ t, findT h.txs xt = some t → t.ops.length ≤ 100) := Lib.hid fun t ht => hs.ops t (findT_mem ht)
  have HLB : Hid (lastB h ⟨xr, xk, xt, xn⟩ = if xt = 0 then true else match findT h.txs xt with
    | some u => u.dn && decide (xn = ((wrN u.ops xk : Nat) : Int))
    | none => false) := Lib.hid rfl
  have HE : Hid (∀ W r, Aft X W → lastB h ⟨xr, xk, xt, xn⟩ = r → BoolNew (lastB h ⟨xr, xk, xt, xn⟩) w (.returned (.bool r)) W) := Lib.hid fun W r hW hr => ⟨by rw [hr], HA.out.trans hW⟩
  generalize BoolNew (lastB h ⟨xr, xk, xt, xn⟩) w = Post at HE ⊢
  generalize lastB h ⟨xr, xk, xt, xn⟩ = lb at HLB HE
  generalize findT h.txs xt = ft at HF HLB HOL
  generalize h.txs.length = n1 at *
  generalize h.ords.length = n2 at *
  clear hh hs HA
  obtain ⟨⟨c0, c1⟩, d0, d1, d2, d3⟩ := HC.out X (Aft.refl _)
  have hxs := HXS.out
  by_cases h0 : xt = 0
  · have HR : Hid (lb = true) := Lib.hid (by rw [HLB.out, if_pos h0])
    subst h0
    have HF := Lib.hid (HE.out X true (Aft.refl _) HR.out)
    clear HLB HOL HC HE HR
    go_enter Try.func11, Try.ntmps11
    go_upto_region 1 with fail
    rw [← hX]
    clear hX
    go_wp2_with fail
    exact HF.out
  · have hb : (xt == 0) = false := by simp [h0]
    have HLB := Lib.hid (HLB.out.trans (if_neg h0))
    clear h0
    go_enter Try.func11, Try.ntmps11
    go_upto_region 1 with fail
    rw [← hX]
    clear hX
    go_wp2_with fail
    refine HF.out.mono ?_
    rintro e w2 ⟨ha, hft⟩
    clear c0 c1 d0 d1 d2 d3 hxs hb HF
    cases ft with
    | none =>
      dsimp only at hft
      subst hft
      obtain ⟨Y, hY⟩ : ∃ Y, Y = w2.alloc (.cells #[.int .i64 0, .bool false, .slice none 0 0] 36) := ⟨_, rfl⟩
      obtain ⟨D, hD⟩ : ∃ D, D = Y.drew := ⟨_, rfl⟩
      have HA3 : Hid (Aft X D ∧ Aft w2 D) := Lib.hid (by rw [hD, hY]; exact ⟨(ha.lay _).drew 1, (Aft.one _).drew 1⟩)
      have HC3 : Hid (∀ Z, Aft D Z → (Z.cell? ⟨w.heap.size + 1, 0, none⟩ = some (.bool xr) ∧ Z.cell? ⟨w.heap.size + 1, 1, none⟩ = some (.int .i64 xk) ∧ Z.cell? ⟨w.heap.size + 1, 2, none⟩ = some (.int .i64 xt) ∧ Z.cell? ⟨w.heap.size + 1, 3, none⟩ = some (.int .i64 xn)) ∧ Z.cell? ⟨w2.heap.size, 1, none⟩ = some (.bool false) ∧ Z.cell? ⟨w2.heap.size, 2, none⟩ = some (.slice none 0 0)) := Lib.hid fun Z hZ => by
        have e : D.heap[w2.heap.size]? = some (.cells #[.int .i64 0, .bool false, .slice none 0 0] 36) := by rw [hD, hY]; exact heap_alloc_at _ _ _ rfl
        have k := (hZ.block _ (heap_lt e)).trans e
        exact ⟨(HC.out Z (HA3.out.1.trans hZ)).2, by simp [World.cell?, k]⟩
      have HR := Lib.hid (HE.out D false HA3.out.1 HLB.out)
      clear HLB HOL HE HC ha
      go_upto_region 4 with fail
      rw [← hY]
      clear hY
      refine wp_region_held_drew (S := fun Z => (Z.cell? ⟨w.heap.size + 1, 0, none⟩ = some (.bool xr) ∧ Z.cell? ⟨w.heap.size + 1, 1, none⟩ = some (.int .i64 xk) ∧ Z.cell? ⟨w.heap.size + 1, 2, none⟩ = some (.int .i64 xt) ∧ Z.cell? ⟨w.heap.size + 1, 3, none⟩ = some (.int .i64 xn)) ∧ Z.cell? ⟨w2.heap.size, 1, none⟩ = some (.bool false) ∧ Z.cell? ⟨w2.heap.size, 2, none⟩ = some (.slice none 0 0)) (by kernel_rfl) (hD ▸ HC3.out _ (Aft.refl _)) (fun hHeld0 => ?_)
      rw [← hD] at hHeld0 ⊢
      clear hD
      refine wpAnyH_take (i := 0) (v := ?_) rfl (by kernel_rfl) (by kernel_rfl) (by kernel_rfl) (fun _ _ _ h => h) (Or.inl ⟨by rfl, ?ya0⟩) (by assumption) ?qa0
      case ya0 => (intro wz hSw; (try dsimp only at hSw); go_simp <;> with_reducible rfl)
      try simp only [Act.put, List.getElem_toArray, List.getElem_cons_zero, List.setIfInBounds_toArray, List.set_cons_zero, List.set_cons_succ]
      refine wpAnyH_take (i := 1) (v := ?_) rfl (by kernel_rfl) (by kernel_rfl) (by kernel_rfl) (fun _ _ _ h => h) (Or.inl ⟨by rfl, ?ya1⟩) (by assumption) ?qa1
      case ya1 => (intro wz hSw; (try dsimp only at hSw); go_simp <;> with_reducible rfl)
      try simp only [Act.put, List.getElem_toArray, List.getElem_cons_zero, List.getElem_cons_succ, List.setIfInBounds_toArray, List.set_cons_zero, List.set_cons_succ]
      refine wpAnyH_take (i := 2) (v := undef) rfl (by kernel_rfl) (by kernel_rfl) (by kernel_rfl) (fun _ _ _ h => h) (Or.inr ⟨by rfl, rfl⟩) (by assumption) ?_
      try simp only [Act.put, List.getElem_toArray, List.getElem_cons_zero, List.getElem_cons_succ, List.setIfInBounds_toArray, List.set_cons_zero, List.set_cons_succ]
      refine wpAnyH_take (i := 3) (v := undef) rfl (by kernel_rfl) (by kernel_rfl) (by kernel_rfl) (fun _ _ _ h => h) (Or.inr ⟨by rfl, rfl⟩) (by assumption) ?_
      try simp only [Act.put, List.getElem_toArray, List.getElem_cons_zero, List.getElem_cons_succ, List.setIfInBounds_toArray, List.set_cons_zero, List.set_cons_succ]
      refine wpAnyH_take (i := 4) (v := ?_) rfl (by kernel_rfl) (by kernel_rfl) (by kernel_rfl) (fun _ _ _ h => h) (Or.inl ⟨by rfl, ?ya4⟩) (by assumption) ?qa4
      case ya4 => (intro wz hSw; (try dsimp only at hSw); go_simp <;> with_reducible rfl)
      try simp only [Act.put, List.getElem_toArray, List.getElem_cons_zero, List.getElem_cons_succ, List.setIfInBounds_toArray, List.set_cons_zero, List.set_cons_succ]
      refine wpAnyH_take (i := 5) (v := ?_) rfl (by kernel_rfl) (by kernel_rfl) (by kernel_rfl) (fun _ _ _ h => h) (Or.inl ⟨by rfl, ?ya5⟩) (by assumption) ?qa5
      case ya5 => (intro wz hSw; (try dsimp only at hSw); go_simp <;> with_reducible rfl)
      try simp only [Act.put, List.getElem_toArray, List.getElem_cons_zero, List.getElem_cons_succ, List.setIfInBounds_toArray, List.set_cons_zero, List.set_cons_succ]
      refine wpAnyH_take (i := 6) (v := undef) rfl (by kernel_rfl) (by kernel_rfl) (by kernel_rfl) (fun _ _ _ h => h) (Or.inr ⟨by rfl, rfl⟩) (by assumption) ?_
      try simp only [Act.put, List.getElem_toArray, List.getElem_cons_zero, List.getElem_cons_succ, List.setIfInBounds_toArray, List.set_cons_zero, List.set_cons_succ]
      refine wpAnyH_take (i := 7) (v := undef) rfl (by kernel_rfl) (by kernel_rfl) (by kernel_rfl) (fun _ _ _ h => h) (Or.inr ⟨by rfl, rfl⟩) (by assumption) ?_
      try simp only [Act.put, List.getElem_toArray, List.getElem_cons_zero, List.getElem_cons_succ, List.setIfInBounds_toArray, List.set_cons_zero, List.set_cons_succ]
      refine wpAnyH_take (i := 8) (v := undef) rfl (by kernel_rfl) (by kernel_rfl) (by kernel_rfl) (fun _ _ _ h => h) (Or.inr ⟨by rfl, rfl⟩) (by assumption) ?_
      try simp only [Act.put, List.getElem_toArray, List.getElem_cons_zero, List.getElem_cons_succ, List.setIfInBounds_toArray, List.set_cons_zero, List.set_cons_succ]
      refine wpAnyH_take (i := 9) (v := undef) rfl (by kernel_rfl) (by kernel_rfl) (by kernel_rfl) (fun _ _ _ h => h) (Or.inr ⟨by rfl, rfl⟩) (by assumption) ?_
      try simp only [Act.put, List.getElem_toArray, List.getElem_cons_zero, List.getElem_cons_succ, List.setIfInBounds_toArray, List.set_cons_zero, List.set_cons_succ]
      refine wpAnyH_take (i := 10) (v := undef) rfl (by kernel_rfl) (by kernel_rfl) (by kernel_rfl) (fun _ _ _ h => h) (Or.inr ⟨by rfl, rfl⟩) (by assumption) ?_
      try simp only [Act.put, List.getElem_toArray, List.getElem_cons_zero, List.getElem_cons_succ, List.setIfInBounds_toArray, List.set_cons_zero, List.set_cons_succ]
      refine wpAnyH_take (i := 11) (v := undef) rfl (by kernel_rfl) (by kernel_rfl) (by kernel_rfl) (fun _ _ _ h => h) (Or.inr ⟨by rfl, rfl⟩) (by assumption) ?_
      try simp only [Act.put, List.getElem_toArray, List.getElem_cons_zero, List.getElem_cons_succ, List.setIfInBounds_toArray, List.set_cons_zero, List.set_cons_succ]
      refine wpAnyH_take (i := 12) (v := undef) rfl (by kernel_rfl) (by kernel_rfl) (by kernel_rfl) (fun _ _ _ h => h) (Or.inr ⟨by rfl, rfl⟩) (by assumption) ?_
      try simp only [Act.put, List.getElem_toArray, List.getElem_cons_zero, List.getElem_cons_succ, List.setIfInBounds_toArray, List.set_cons_zero, List.set_cons_succ]
      refine wpAnyH_take (i := 13) (v := undef) rfl (by kernel_rfl) (by kernel_rfl) (by kernel_rfl) (fun _ _ _ h => h) (Or.inr ⟨by rfl, rfl⟩) (by assumption) ?_
      try simp only [Act.put, List.getElem_toArray, List.getElem_cons_zero, List.getElem_cons_succ, List.setIfInBounds_toArray, List.set_cons_zero, List.set_cons_succ]
      refine wpAnyH_take (i := 14) (v := ?_) rfl (by kernel_rfl) (by kernel_rfl) (by kernel_rfl) (fun _ _ _ h => h) (Or.inl ⟨by rfl, ?ya14⟩) (by assumption) ?qa14
      case ya14 => (intro wz hSw; (try dsimp only at hSw); go_simp <;> with_reducible rfl)
      try simp only [Act.put, List.getElem_toArray, List.getElem_cons_zero, List.getElem_cons_succ, List.setIfInBounds_toArray, List.set_cons_zero, List.set_cons_succ]
      refine wpAnyH_take (i := 15) (v := ?_) rfl (by kernel_rfl) (by kernel_rfl) (by kernel_rfl) (fun _ _ _ h => h) (Or.inl ⟨by rfl, ?ya15⟩) (by assumption) ?qa15
      case ya15 => (intro wz hSw; (try dsimp only at hSw); go_simp <;> with_reducible rfl)
      try simp only [Act.put, List.getElem_toArray, List.getElem_cons_zero, List.getElem_cons_succ, List.setIfInBounds_toArray, List.set_cons_zero, List.set_cons_succ]
      refine wpAnyH_done (by kernel_rfl) ?_ _
      clear hHeld0 HC3 HA3
      go_wp2_with fail
      exact HR.out
    | some t =>
      dsimp only at hft HLB
      obtain ⟨sp, sc, he, hops⟩ := hft
      subst he
      have HLN := Lib.hid (HOL.out t rfl)
      obtain ⟨ti, td, tl⟩ := t
      dsimp only at hops HLB HLN
      cases td with
      | false =>
        generalize tl.length = tn at *
        obtain ⟨Y, hY⟩ : ∃ Y, Y = w2.alloc (.cells #[.int .i64 ti, .bool false, .slice sp tn sc] 36) := ⟨_, rfl⟩
        obtain ⟨D, hD⟩ : ∃ D, D = Y.drew := ⟨_, rfl⟩
        have HA3 : Hid (Aft X D ∧ Aft w2 D) := Lib.hid (by rw [hD, hY]; exact ⟨(ha.lay _).drew 1, (Aft.one _).drew 1⟩)
        have HC3 : Hid (∀ Z, Aft D Z → (Z.cell? ⟨w.heap.size + 1, 0, none⟩ = some (.bool xr) ∧ Z.cell? ⟨w.heap.size + 1, 1, none⟩ = some (.int .i64 xk) ∧ Z.cell? ⟨w.heap.size + 1, 2, none⟩ = some (.int .i64 xt) ∧ Z.cell? ⟨w.heap.size + 1, 3, none⟩ = some (.int .i64 xn)) ∧ Z.cell? ⟨w2.heap.size, 1, none⟩ = some (.bool false) ∧ Z.cell? ⟨w2.heap.size, 2, none⟩ = some (.slice sp tn sc)) := Lib.hid fun Z hZ => by
          have e : D.heap[w2.heap.size]? = some (.cells #[.int .i64 ti, .bool false, .slice sp tn sc] 36) := by rw [hD, hY]; exact heap_alloc_at _ _ _ rfl
          have k := (hZ.block _ (heap_lt e)).trans e
          exact ⟨(HC.out Z (HA3.out.1.trans hZ)).2, by simp [World.cell?, k]⟩
        have HR := Lib.hid (HE.out D false HA3.out.1 HLB.out)
        clear HLB HOL HE HC ha hops HLN
        go_upto_region 4 with fail
        rw [← hY]
        clear hY
        refine wp_region_held_drew (S := fun Z => (Z.cell? ⟨w.heap.size + 1, 0, none⟩ = some (.bool xr) ∧ Z.cell? ⟨w.heap.size + 1, 1, none⟩ = some (.int .i64 xk) ∧ Z.cell? ⟨w.heap.size + 1, 2, none⟩ = some (.int .i64 xt) ∧ Z.cell? ⟨w.heap.size + 1, 3, none⟩ = some (.int .i64 xn)) ∧ Z.cell? ⟨w2.heap.size, 1, none⟩ = some (.bool false) ∧ Z.cell? ⟨w2.heap.size, 2, none⟩ = some (.slice sp tn sc)) (by kernel_rfl) (hD ▸ HC3.out _ (Aft.refl _)) (fun hHeld0 => ?_)
        rw [← hD] at hHeld0 ⊢
        clear hD
        refine wpAnyH_take (i := 0) (v := ?_) rfl (by kernel_rfl) (by kernel_rfl) (by kernel_rfl) (fun _ _ _ h => h) (Or.inl ⟨by rfl, ?yb0⟩) (by assumption) ?qb0
        case yb0 => (intro wz hSw; (try dsimp only at hSw); go_simp <;> with_reducible rfl)
        try simp only [Act.put, List.getElem_toArray, List.getElem_cons_zero, List.setIfInBounds_toArray, List.set_cons_zero, List.set_cons_succ]
        refine wpAnyH_take (i := 1) (v := ?_) rfl (by kernel_rfl) (by kernel_rfl) (by kernel_rfl) (fun _ _ _ h => h) (Or.inl ⟨by rfl, ?yb1⟩) (by assumption) ?qb1
        case yb1 => (intro wz hSw; (try dsimp only at hSw); go_simp <;> with_reducible rfl)
        try simp only [Act.put, List.getElem_toArray, List.getElem_cons_zero, List.getElem_cons_succ, List.setIfInBounds_toArray, List.set_cons_zero, List.set_cons_succ]
        refine wpAnyH_take (i := 2) (v := ?_) rfl (by kernel_rfl) (by kernel_rfl) (by kernel_rfl) (fun _ _ _ h => h) (Or.inl ⟨by rfl, ?yb2⟩) (by assumption) ?qb2
        case yb2 => (intro wz hSw; (try dsimp only at hSw); go_simp <;> with_reducible rfl)
        try simp only [Act.put, List.getElem_toArray, List.getElem_cons_zero, List.getElem_cons_succ, List.setIfInBounds_toArray, List.set_cons_zero, List.set_cons_succ]
        refine wpAnyH_take (i := 3) (v := ?_) rfl (by kernel_rfl) (by kernel_rfl) (by kernel_rfl) (fun _ _ _ h => h) (Or.inl ⟨by rfl, ?yb3⟩) (by assumption) ?qb3
        case yb3 => (intro wz hSw; (try dsimp only at hSw); go_simp <;> with_reducible rfl)
        try simp only [Act.put, List.getElem_toArray, List.getElem_cons_zero, List.getElem_cons_succ, List.setIfInBounds_toArray, List.set_cons_zero, List.set_cons_succ]
        refine wpAnyH_take (i := 4) (v := ?_) rfl (by kernel_rfl) (by kernel_rfl) (by kernel_rfl) (fun _ _ _ h => h) (Or.inl ⟨by rfl, ?yb4⟩) (by assumption) ?qb4
        case yb4 => (intro wz hSw; (try dsimp only at hSw); go_simp <;> with_reducible rfl)
        try simp only [Act.put, List.getElem_toArray, List.getElem_cons_zero, List.getElem_cons_succ, List.setIfInBounds_toArray, List.set_cons_zero, List.set_cons_succ]
        refine wpAnyH_take (i := 5) (v := ?_) rfl (by kernel_rfl) (by kernel_rfl) (by kernel_rfl) (fun _ _ _ h => h) (Or.inl ⟨by rfl, ?yb5⟩) (by assumption) ?qb5
        case yb5 => (intro wz hSw; (try dsimp only at hSw); go_simp <;> with_reducible rfl)
        try simp only [Act.put, List.getElem_toArray, List.getElem_cons_zero, List.getElem_cons_succ, List.setIfInBounds_toArray, List.set_cons_zero, List.set_cons_succ]
        refine wpAnyH_take (i := 6) (v := undef) rfl (by kernel_rfl) (by kernel_rfl) (by kernel_rfl) (fun _ _ _ h => h) (Or.inr ⟨by rfl, rfl⟩) (by assumption) ?_
        try simp only [Act.put, List.getElem_toArray, List.getElem_cons_zero, List.getElem_cons_succ, List.setIfInBounds_toArray, List.set_cons_zero, List.set_cons_succ]
        refine wpAnyH_take (i := 7) (v := undef) rfl (by kernel_rfl) (by kernel_rfl) (by kernel_rfl) (fun _ _ _ h => h) (Or.inr ⟨by rfl, rfl⟩) (by assumption) ?_
        try simp only [Act.put, List.getElem_toArray, List.getElem_cons_zero, List.getElem_cons_succ, List.setIfInBounds_toArray, List.set_cons_zero, List.set_cons_succ]
        refine wpAnyH_take (i := 8) (v := undef) rfl (by kernel_rfl) (by kernel_rfl) (by kernel_rfl) (fun _ _ _ h => h) (Or.inr ⟨by rfl, rfl⟩) (by assumption) ?_
        try simp only [Act.put, List.getElem_toArray, List.getElem_cons_zero, List.getElem_cons_succ, List.setIfInBounds_toArray, List.set_cons_zero, List.set_cons_succ]
        refine wpAnyH_take (i := 9) (v := undef) rfl (by kernel_rfl) (by kernel_rfl) (by kernel_rfl) (fun _ _ _ h => h) (Or.inr ⟨by rfl, rfl⟩) (by assumption) ?_
        try simp only [Act.put, List.getElem_toArray, List.getElem_cons_zero, List.getElem_cons_succ, List.setIfInBounds_toArray, List.set_cons_zero, List.set_cons_succ]
        refine wpAnyH_take (i := 10) (v := undef) rfl (by kernel_rfl) (by kernel_rfl) (by kernel_rfl) (fun _ _ _ h => h) (Or.inr ⟨by rfl, rfl⟩) (by assumption) ?_
        try simp only [Act.put, List.getElem_toArray, List.getElem_cons_zero, List.getElem_cons_succ, List.setIfInBounds_toArray, List.set_cons_zero, List.set_cons_succ]
        refine wpAnyH_take (i := 11) (v := undef) rfl (by kernel_rfl) (by kernel_rfl) (by kernel_rfl) (fun _ _ _ h => h) (Or.inr ⟨by rfl, rfl⟩) (by assumption) ?_
        try simp only [Act.put, List.getElem_toArray, List.getElem_cons_zero, List.getElem_cons_succ, List.setIfInBounds_toArray, List.set_cons_zero, List.set_cons_succ]
        refine wpAnyH_take (i := 12) (v := undef) rfl (by kernel_rfl) (by kernel_rfl) (by kernel_rfl) (fun _ _ _ h => h) (Or.inr ⟨by rfl, rfl⟩) (by assumption) ?_
        try simp only [Act.put, List.getElem_toArray, List.getElem_cons_zero, List.getElem_cons_succ, List.setIfInBounds_toArray, List.set_cons_zero, List.set_cons_succ]
        refine wpAnyH_take (i := 13) (v := undef) rfl (by kernel_rfl) (by kernel_rfl) (by kernel_rfl) (fun _ _ _ h => h) (Or.inr ⟨by rfl, rfl⟩) (by assumption) ?_
        try simp only [Act.put, List.getElem_toArray, List.getElem_cons_zero, List.getElem_cons_succ, List.setIfInBounds_toArray, List.set_cons_zero, List.set_cons_succ]
        refine wpAnyH_take (i := 14) (v := ?_) rfl (by kernel_rfl) (by kernel_rfl) (by kernel_rfl) (fun _ _ _ h => h) (Or.inl ⟨by rfl, ?yb14⟩) (by assumption) ?qb14
        case yb14 => (intro wz hSw; (try dsimp only at hSw); go_simp <;> with_reducible rfl)
        try simp only [Act.put, List.getElem_toArray, List.getElem_cons_zero, List.getElem_cons_succ, List.setIfInBounds_toArray, List.set_cons_zero, List.set_cons_succ]
        refine wpAnyH_take (i := 15) (v := ?_) rfl (by kernel_rfl) (by kernel_rfl) (by kernel_rfl) (fun _ _ _ h => h) (Or.inl ⟨by rfl, ?yb15⟩) (by assumption) ?qb15
        case yb15 => (intro wz hSw; (try dsimp only at hSw); go_simp <;> with_reducible rfl)
        try simp only [Act.put, List.getElem_toArray, List.getElem_cons_zero, List.getElem_cons_succ, List.setIfInBounds_toArray, List.set_cons_zero, List.set_cons_succ]
        refine wpAnyH_done (by kernel_rfl) ?_ _
        clear hHeld0 HC3 HA3
        go_wp2_with fail
        exact HR.out
      | true =>
        have HW0 : Hid (∀ W, Aft w2 W → Calls Try.prog 27 #[.slice sp tl.length sc, .int .i64 xk] W (IntNew ((wrN tl xk : Nat) : Int) W)) := Lib.hid fun W hW => rwrites_any xk W (hops.below hW).2 (by have := HLN.out; omega)
        generalize ((wrN tl xk : Nat) : Int) = wv at HW0 HLB
        generalize tl.length = tn at *
        obtain ⟨Y, hY⟩ : ∃ Y, Y = w2.alloc (.cells #[.int .i64 ti, .bool true, .slice sp tn sc] 36) := ⟨_, rfl⟩
        obtain ⟨D, hD⟩ : ∃ D, D = Y.drew := ⟨_, rfl⟩
        have HA3 : Hid (Aft X D ∧ Aft w2 D) := Lib.hid (by rw [hD, hY]; exact ⟨(ha.lay _).drew 1, (Aft.one _).drew 1⟩)
        have HC3 : Hid (∀ Z, Aft D Z → (Z.cell? ⟨w.heap.size + 1, 0, none⟩ = some (.bool xr) ∧ Z.cell? ⟨w.heap.size + 1, 1, none⟩ = some (.int .i64 xk) ∧ Z.cell? ⟨w.heap.size + 1, 2, none⟩ = some (.int .i64 xt) ∧ Z.cell? ⟨w.heap.size + 1, 3, none⟩ = some (.int .i64 xn)) ∧ Z.cell? ⟨w2.heap.size, 1, none⟩ = some (.bool true) ∧ Z.cell? ⟨w2.heap.size, 2, none⟩ = some (.slice sp tn sc)) := Lib.hid fun Z hZ => by
          have e : D.heap[w2.heap.size]? = some (.cells #[.int .i64 ti, .bool true, .slice sp tn sc] 36) := by rw [hD, hY]; exact heap_alloc_at _ _ _ rfl
          have k := (hZ.block _ (heap_lt e)).trans e
          exact ⟨(HC.out Z (HA3.out.1.trans hZ)).2, by simp [World.cell?, k]⟩
        have HW := Lib.hid (HW0.out D HA3.out.2)
        have HR : Hid (∀ W, Aft D W → Post (.returned (.bool (xn == wv))) W) := Lib.hid fun W hW => HE.out W (xn == wv) (HA3.out.1.trans hW) (by rw [HLB.out, Bool.true_and, Bool.eq_iff_iff, decide_eq_true_iff, beq_iff_eq])
        clear HLB HOL HE HC ha hops HLN HW0
        go_upto_region 4 with fail
        rw [← hY]
        clear hY
        refine wp_region_held_drew (S := fun Z => (Z.cell? ⟨w.heap.size + 1, 0, none⟩ = some (.bool xr) ∧ Z.cell? ⟨w.heap.size + 1, 1, none⟩ = some (.int .i64 xk) ∧ Z.cell? ⟨w.heap.size + 1, 2, none⟩ = some (.int .i64 xt) ∧ Z.cell? ⟨w.heap.size + 1, 3, none⟩ = some (.int .i64 xn)) ∧ Z.cell? ⟨w2.heap.size, 1, none⟩ = some (.bool true) ∧ Z.cell? ⟨w2.heap.size, 2, none⟩ = some (.slice sp tn sc)) (by kernel_rfl) (hD ▸ HC3.out _ (Aft.refl _)) (fun hHeld0 => ?_)
        rw [← hD] at hHeld0 ⊢
        clear hD
        refine wpAnyH_take (i := 0) (v := ?_) rfl (by kernel_rfl) (by kernel_rfl) (by kernel_rfl) (fun _ _ _ h => h) (Or.inl ⟨by rfl, ?yc0⟩) (by assumption) ?qc0
        case yc0 => (intro wz hSw; (try dsimp only at hSw); go_simp <;> with_reducible rfl)
        try simp only [Act.put, List.getElem_toArray, List.getElem_cons_zero, List.setIfInBounds_toArray, List.set_cons_zero, List.set_cons_succ]
        refine wpAnyH_take (i := 1) (v := ?_) rfl (by kernel_rfl) (by kernel_rfl) (by kernel_rfl) (fun _ _ _ h => h) (Or.inl ⟨by rfl, ?yc1⟩) (by assumption) ?qc1
        case yc1 => (intro wz hSw; (try dsimp only at hSw); go_simp <;> with_reducible rfl)
        try simp only [Act.put, List.getElem_toArray, List.getElem_cons_zero, List.getElem_cons_succ, List.setIfInBounds_toArray, List.set_cons_zero, List.set_cons_succ]
        refine wpAnyH_take (i := 2) (v := ?_) rfl (by kernel_rfl) (by kernel_rfl) (by kernel_rfl) (fun _ _ _ h => h) (Or.inl ⟨by rfl, ?yc2⟩) (by assumption) ?qc2
        case yc2 => (intro wz hSw; (try dsimp only at hSw); go_simp <;> with_reducible rfl)
        try simp only [Act.put, List.getElem_toArray, List.getElem_cons_zero, List.getElem_cons_succ, List.setIfInBounds_toArray, List.set_cons_zero, List.set_cons_succ]
        refine wpAnyH_take (i := 3) (v := ?_) rfl (by kernel_rfl) (by kernel_rfl) (by kernel_rfl) (fun _ _ _ h => h) (Or.inl ⟨by rfl, ?yc3⟩) (by assumption) ?qc3
        case yc3 => (intro wz hSw; (try dsimp only at hSw); go_simp <;> with_reducible rfl)
        try simp only [Act.put, List.getElem_toArray, List.getElem_cons_zero, List.getElem_cons_succ, List.setIfInBounds_toArray, List.set_cons_zero, List.set_cons_succ]
        refine wpAnyH_take (i := 4) (v := ?_) rfl (by kernel_rfl) (by kernel_rfl) (by kernel_rfl) (fun _ _ _ h => h) (Or.inl ⟨by rfl, ?yc4⟩) (by assumption) ?qc4
        case yc4 => (intro wz hSw; (try dsimp only at hSw); go_simp <;> with_reducible rfl)
        try simp only [Act.put, List.getElem_toArray, List.getElem_cons_zero, List.getElem_cons_succ, List.setIfInBounds_toArray, List.set_cons_zero, List.set_cons_succ]
        refine wpAnyH_take (i := 5) (v := ?_) rfl (by kernel_rfl) (by kernel_rfl) (by kernel_rfl) (fun _ _ _ h => h) (Or.inl ⟨by rfl, ?yc5⟩) (by assumption) ?qc5
        case yc5 => (intro wz hSw; (try dsimp only at hSw); go_simp <;> with_reducible rfl)
        try simp only [Act.put, List.getElem_toArray, List.getElem_cons_zero, List.getElem_cons_succ, List.setIfInBounds_toArray, List.set_cons_zero, List.set_cons_succ]
        refine wpAnyH_take (i := 6) (v := ?_) rfl (by kernel_rfl) (by kernel_rfl) (by kernel_rfl) (fun _ _ _ h => h) (Or.inl ⟨by rfl, ?yc6⟩) (by assumption) ?qc6
        case yc6 => (intro wz hSw; (try dsimp only at hSw); go_simp <;> with_reducible rfl)
        try simp only [Act.put, List.getElem_toArray, List.getElem_cons_zero, List.getElem_cons_succ, List.setIfInBounds_toArray, List.set_cons_zero, List.set_cons_succ]
        refine wpAnyH_take (i := 7) (v := ?_) rfl (by kernel_rfl) (by kernel_rfl) (by kernel_rfl) (fun _ _ _ h => h) (Or.inl ⟨by rfl, ?yc7⟩) (by assumption) ?qc7
        case yc7 => (intro wz hSw; (try dsimp only at hSw); go_simp <;> with_reducible rfl)
        try simp only [Act.put, List.getElem_toArray, List.getElem_cons_zero, List.getElem_cons_succ, List.setIfInBounds_toArray, List.set_cons_zero, List.set_cons_succ]
        refine wpAnyH_take (i := 8) (v := ?_) rfl (by kernel_rfl) (by kernel_rfl) (by kernel_rfl) (fun _ _ _ h => h) (Or.inl ⟨by rfl, ?yc8⟩) (by assumption) ?qc8
        case yc8 => (intro wz hSw; (try dsimp only at hSw); go_simp <;> with_reducible rfl)
        try simp only [Act.put, List.getElem_toArray, List.getElem_cons_zero, List.getElem_cons_succ, List.setIfInBounds_toArray, List.set_cons_zero, List.set_cons_succ]
        refine wpAnyH_take (i := 9) (v := ?_) rfl (by kernel_rfl) (by kernel_rfl) (by kernel_rfl) (fun _ _ _ h => h) (Or.inl ⟨by rfl, ?yc9⟩) (by assumption) ?qc9
        case yc9 => (intro wz hSw; (try dsimp only at hSw); go_simp <;> with_reducible rfl)
        try simp only [Act.put, List.getElem_toArray, List.getElem_cons_zero, List.getElem_cons_succ, List.setIfInBounds_toArray, List.set_cons_zero, List.set_cons_succ]
        refine wpAnyH_take (i := 10) (v := ?_) rfl (by kernel_rfl) (by kernel_rfl) (by kernel_rfl) (fun _ _ _ h => h) (Or.inl ⟨by rfl, ?yc10⟩) (by assumption) ?qc10
        case yc10 => (intro wz hSw; (try dsimp only at hSw); go_simp <;> with_reducible rfl)
        try simp only [Act.put, List.getElem_toArray, List.getElem_cons_zero, List.getElem_cons_succ, List.setIfInBounds_toArray, List.set_cons_zero, List.set_cons_succ]
        refine wpAnyH_take (i := 11) (v := ?_) rfl (by kernel_rfl) (by kernel_rfl) (by kernel_rfl) (fun _ _ _ h => h) (Or.inl ⟨by rfl, ?yc11⟩) (by assumption) ?qc11
        case yc11 => (intro wz hSw; (try dsimp only at hSw); go_simp <;> with_reducible rfl)
        try simp only [Act.put, List.getElem_toArray, List.getElem_cons_zero, List.getElem_cons_succ, List.setIfInBounds_toArray, List.set_cons_zero, List.set_cons_succ]
        refine wpAnyH_ready (rs := [12]) (by kernel_rfl) (by simp) ?_
        refine AllReadyH.cons rfl (fun K hK => ?_) AllReadyH.nil
        go_simp
        refine HW.out.mono ?_
        rintro e w4 ⟨rfl, hb⟩
        have HA4 : Hid (Aft D w4) := Lib.hid hb
        clear hb
        refine hK.out _ _ (HC3.out _ HA4.out) (fun hHeldc12 => ?_)
        clear hK K
        try simp only [Act.put, List.getElem_toArray, List.getElem_cons_zero, List.getElem_cons_succ, List.setIfInBounds_toArray, List.set_cons_zero, List.set_cons_succ]
        refine wpAnyH_take (i := 13) (v := ?_) rfl (by kernel_rfl) (by kernel_rfl) (by kernel_rfl) (fun _ _ _ h => h) (Or.inl ⟨by rfl, ?yc13⟩) (by assumption) ?qc13
        case yc13 => (intro wz hSw; (try dsimp only at hSw); go_simp <;> with_reducible rfl)
        try simp only [Act.put, List.getElem_toArray, List.getElem_cons_zero, List.getElem_cons_succ, List.setIfInBounds_toArray, List.set_cons_zero, List.set_cons_succ]
        refine wpAnyH_take (i := 14) (v := ?_) rfl (by kernel_rfl) (by kernel_rfl) (by kernel_rfl) (fun _ _ _ h => h) (Or.inl ⟨by rfl, ?yc14⟩) (by assumption) ?qc14
        case yc14 => (intro wz hSw; (try dsimp only at hSw); go_simp <;> with_reducible rfl)
        try simp only [Act.put, List.getElem_toArray, List.getElem_cons_zero, List.getElem_cons_succ, List.setIfInBounds_toArray, List.set_cons_zero, List.set_cons_succ]
        refine wpAnyH_take (i := 15) (v := ?_) rfl (by kernel_rfl) (by kernel_rfl) (by kernel_rfl) (fun _ _ _ h => h) (Or.inl ⟨by rfl, ?yc15⟩) (by assumption) ?qc15
        case yc15 => (intro wz hSw; (try dsimp only at hSw); go_simp <;> with_reducible rfl)
        try simp only [Act.put, List.getElem_toArray, List.getElem_cons_zero, List.getElem_cons_succ, List.setIfInBounds_toArray, List.set_cons_zero, List.set_cons_succ]
        refine wpAnyH_done (by kernel_rfl) ?_ _
        have HR4 := Lib.hid (HR.out w4 HA4.out)
        clear hHeld0 hHeldc12 HC3 HA3 HR HW HA4
        go_wp2_with fail
        exact HR4.out
end Go.Proofs.Ytcmafmdcgkpagaa.Dg
