/-
  Contracts of the document's answers for edges and versions (package tenterref02), and of pack.Less. Not a statement of the seat.
-/
import Derived.Test.YtepfgaiidmbklaaPkSorted
namespace Go.Proofs.Ytepfgaiidmbklaa.Pk
open Go.ChangeShapes Go.WideShapes Go.ChangeAt Go.RowKit Base Go.Shelf Go.Lib Go.Sort
set_option maxHeartbeats 1000000 in
theorem rightEdge_any (f t k y : Int) (w : World) : Calls Try.prog 9 #[.agg #[.int .i64 f, .int .i64 t, .int .i64 k, .int .i64 y]] w fun e w' => e = .returned (.bool (eR f t k y)) ∧ Below w.heap.size w w' := by
  by_cases f1 : 1 ≤ f
  case neg =>
    rw [eR_false (by omega)]
    go_enter Try.func9, Try.ntmps9
    go_wp2
    go_ret
    exact ⟨rfl, by go_grown⟩
  by_cases f2 : f ≤ 1048575
  case neg =>
    rw [eR_false (by omega)]
    go_enter Try.func9, Try.ntmps9
    go_wp2
    go_ret
    exact ⟨rfl, by go_grown⟩
  by_cases t1 : 1 ≤ t
  case neg =>
    rw [eR_false (by omega)]
    go_enter Try.func9, Try.ntmps9
    go_wp2
    go_ret
    exact ⟨rfl, by go_grown⟩
  by_cases t2 : t ≤ 1048575
  case neg =>
    rw [eR_false (by omega)]
    go_enter Try.func9, Try.ntmps9
    go_wp2
    go_ret
    exact ⟨rfl, by go_grown⟩
  by_cases k1 : 1 ≤ k
  case neg =>
    rw [eR_false (by omega)]
    go_enter Try.func9, Try.ntmps9
    go_wp2
    go_ret
    exact ⟨rfl, by go_grown⟩
  by_cases k2 : k ≤ 3
  case neg =>
    rw [eR_false (by omega)]
    go_enter Try.func9, Try.ntmps9
    go_wp2
    go_ret
    exact ⟨rfl, by go_grown⟩
  by_cases y1 : 1 ≤ y
  case neg =>
    rw [eR_false (by omega)]
    go_enter Try.func9, Try.ntmps9
    go_wp2
    go_ret
    exact ⟨rfl, by go_grown⟩
  by_cases y2 : y ≤ 1048575
  case neg =>
    rw [eR_false (by omega)]
    go_enter Try.func9, Try.ntmps9
    go_wp2
    go_ret
    exact ⟨rfl, by go_grown⟩
  rw [eR_iff.2 ⟨f1, f2, t1, t2, k1, k2, y1, y2⟩]
  go_enter Try.func9, Try.ntmps9
  go_wp2
  go_ret
  exact ⟨rfl, by go_grown⟩
set_option maxHeartbeats 1000000 in
theorem edgeNumber_ok (f t k y : Int) (w : World) (hR : eR f t k y = true) : Calls Try.prog 10 #[.agg #[.int .i64 f, .int .i64 t, .int .i64 k, .int .i64 y]] w fun e w' => e = .returned (.int .u64 (eNum f t k y)) ∧ Below w.heap.size w w' := by
  obtain ⟨f1, f2, t1, t2, k1, k2, y1, y2⟩ := eR_iff.1 hR
  clear hR
  go_enter Try.func10, Try.ntmps10
  go_wp2
  go_ret
  exact ⟨rfl, by go_grown⟩
set_option maxHeartbeats 1000000 in
theorem edgeOf_far (x : Int) (w : World) (h1 : 4611686018427387904 ≤ x) (h2 : x ≤ 18446744073709551615) :
    Calls Try.prog 12 #[.int .u64 x] w fun e w' => e = .returned (.tuple #[.agg #[.int .i64 0, .int .i64 0, .int .i64 0, .int .i64 0], .bool false]) ∧ Below w.heap.size w w' := by
  have hq : 1048575 < x / 4398046511104 := by omega
  go_enter Try.func12, Try.ntmps12
  go_wp2
  refine bodyPost_ret (v := .tuple #[.agg #[.int .i64 0, .int .i64 0, .int .i64 0, .int .i64 0], .bool false]) (by simp [results, Try.results12, go_sem]) rfl ⟨rfl, ?_⟩
  repeat' (first | exact Below.refl _ _ | apply below_drewN | (refine Below.alloc ?_ (by simp) _) | (refine Below.setCell ?_ (by simp) _))
set_option maxHeartbeats 1000000 in
theorem edgeOf_ok (x : Int) (w : World) (h0 : 0 ≤ x) (h1 : x < 4611686018427387904) (hR : eR (x / 4398046511104 % 1048576) (x % 1048576) (x / 1099511627776 % 4) (x / 1048576 % 1048576) = true) :
    Calls Try.prog 12 #[.int .u64 x] w fun e w' => e = .returned (.tuple #[.agg #[.int .i64 (x / 4398046511104 % 1048576), .int .i64 (x % 1048576), .int .i64 (x / 1099511627776 % 4), .int .i64 (x / 1048576 % 1048576)], .bool true]) ∧ Below w.heap.size w w' := by
  have hq : x / 4398046511104 ≤ 1048575 := by omega
  have hm : x / 4398046511104 % 1048576 = x / 4398046511104 := by omega
  rw [hm] at hR ⊢
  clear hm
  go_enter Try.func12, Try.ntmps12
  go_wp2_with fail
  refine (rightEdge_any _ _ _ _ _).mono ?_
  rw [hR]
  rintro e w1 ⟨rfl, hb⟩
  obtain ⟨⟨c0, c1, c2, c3⟩, ⟨d0, d1, d2, d3⟩⟩ := blk4 hb (g := w.heap.size) (by simp; omega) (heap_alloc_lt _ _ _ _ (heap_alloc_at _ _ _ (by simp)))
  obtain ⟨⟨u0, u1, u2, u3⟩, _⟩ := blk4 hb (g := w.heap.size + 1) (by simp) (heap_alloc_at _ _ _ (by simp))
  go_wp2
  refine bodyPost_ret (v := .tuple #[.agg #[.int .i64 (x / 4398046511104), .int .i64 (x % 1048576), .int .i64 (x / 1099511627776 % 4), .int .i64 (x / 1048576 % 1048576)], .bool true]) (by simp [results, Try.results12, go_sem, c0, c1, c2, c3]) rfl ⟨rfl, ?_⟩
  clear c0 c1 c2 c3 d0 d1 d2 d3 u0 u1 u2 u3
  have hb' := ((Below.refl w.heap.size w).alloc (Nat.le_refl _) (.cells #[.int .i64 0, .int .i64 0, .int .i64 0, .int .i64 0] 23)).alloc (by simp) (.cells #[.int .i64 (x / 4398046511104), .int .i64 (x % 1048576), .int .i64 (x / 1099511627776 % 4), .int .i64 (x / 1048576 % 1048576)] 23) |>.trans (hb.mono (B' := w.heap.size) (by simp; omega))
  exact (((hb'.setCell (by simp) _).setCell (by simp) _).setCell (by simp) _).setCell (by simp) _
set_option maxHeartbeats 1000000 in
theorem edgeOf_bad (x : Int) (w : World) (h0 : 0 ≤ x) (h1 : x < 4611686018427387904) (hR : eR (x / 4398046511104 % 1048576) (x % 1048576) (x / 1099511627776 % 4) (x / 1048576 % 1048576) = false) :
    Calls Try.prog 12 #[.int .u64 x] w fun e w' => e = .returned (.tuple #[.agg #[.int .i64 0, .int .i64 0, .int .i64 0, .int .i64 0], .bool false]) ∧ Below w.heap.size w w' := by
  have hq : x / 4398046511104 ≤ 1048575 := by omega
  have hm : x / 4398046511104 % 1048576 = x / 4398046511104 := by omega
  rw [hm] at hR
  clear hm
  go_enter Try.func12, Try.ntmps12
  go_wp2_with fail
  refine (rightEdge_any _ _ _ _ _).mono ?_
  rw [hR]
  rintro e w1 ⟨rfl, hb⟩
  obtain ⟨⟨c0, c1, c2, c3⟩, ⟨d0, d1, d2, d3⟩⟩ := blk4 hb (g := w.heap.size) (by simp; omega) (heap_alloc_lt _ _ _ _ (heap_alloc_at _ _ _ (by simp)))
  obtain ⟨⟨u0, u1, u2, u3⟩, _⟩ := blk4 hb (g := w.heap.size + 1) (by simp) (heap_alloc_at _ _ _ (by simp))
  go_wp2
  refine bodyPost_ret (v := .tuple #[.agg #[.int .i64 0, .int .i64 0, .int .i64 0, .int .i64 0], .bool false]) (by simp [results, Try.results12, go_sem, c0, c1, c2, c3]) rfl ⟨rfl, ?_⟩
  clear c0 c1 c2 c3 d0 d1 d2 d3 u0 u1 u2 u3
  have hb' := ((Below.refl w.heap.size w).alloc (Nat.le_refl _) (.cells #[.int .i64 0, .int .i64 0, .int .i64 0, .int .i64 0] 23)).alloc (by simp) (.cells #[.int .i64 (x / 4398046511104), .int .i64 (x % 1048576), .int .i64 (x / 1099511627776 % 4), .int .i64 (x / 1048576 % 1048576)] 23) |>.trans (hb.mono (B' := w.heap.size) (by simp; omega))
  exact (((hb'.setCell (by simp) _).setCell (by simp) _).setCell (by simp) _).setCell (by simp) _
set_option maxHeartbeats 2000000 in
theorem rightVersion_any (t y n : Int) (w : World) : Calls Try.prog 15 #[.agg #[.int .i64 t, .int .i64 y, .int .i64 n]] w fun e w' => e = .returned (.bool (vR t y n)) ∧ Below w.heap.size w w' := by
  by_cases ht : t = 0
  · subst ht
    by_cases y1 : 1 ≤ y
    case neg =>
      rw [vR_false (by omega)]
      go_enter Try.func15, Try.ntmps15
      go_wp2
      go_ret
      exact ⟨rfl, by go_grown⟩
    by_cases y2 : y ≤ 1048575
    case neg =>
      rw [vR_false (by omega)]
      go_enter Try.func15, Try.ntmps15
      go_wp2
      go_ret
      exact ⟨rfl, by go_grown⟩
    by_cases hn : n = 0
    · subst hn
      rw [vR_iff.2 (by omega)]
      go_enter Try.func15, Try.ntmps15
      go_wp2
      go_ret
      exact ⟨rfl, by go_grown⟩
    · have hb : (n == 0) = false := by rw [beq_eq_false_iff_ne]; exact hn
      rw [vR_false (by omega)]
      go_enter Try.func15, Try.ntmps15
      go_wp2
      go_ret
      exact ⟨ret_bool (by first | rfl | exact hb | (simp [hb])), by go_grown⟩
  have hb : (t == 0) = false := by rw [beq_eq_false_iff_ne]; exact ht
  by_cases t1 : 1 ≤ t
  case neg =>
    rw [vR_false (by omega)]
    go_enter Try.func15, Try.ntmps15
    go_wp2
    go_ret
    exact ⟨rfl, by go_grown⟩
  by_cases t2 : t ≤ 1048575
  case neg =>
    rw [vR_false (by omega)]
    go_enter Try.func15, Try.ntmps15
    go_wp2
    go_ret
    exact ⟨rfl, by go_grown⟩
  by_cases y1 : 1 ≤ y
  case neg =>
    rw [vR_false (by omega)]
    go_enter Try.func15, Try.ntmps15
    go_wp2
    go_ret
    exact ⟨rfl, by go_grown⟩
  by_cases y2 : y ≤ 1048575
  case neg =>
    rw [vR_false (by omega)]
    go_enter Try.func15, Try.ntmps15
    go_wp2
    go_ret
    exact ⟨rfl, by go_grown⟩
  by_cases n1 : 1 ≤ n
  case neg =>
    rw [vR_false (by omega)]
    go_enter Try.func15, Try.ntmps15
    go_wp2
    go_ret
    exact ⟨rfl, by go_grown⟩
  by_cases n2 : n ≤ 4095
  case neg =>
    rw [vR_false (by omega)]
    go_enter Try.func15, Try.ntmps15
    go_wp2
    go_ret
    exact ⟨rfl, by go_grown⟩
  rw [vR_iff.2 (by omega)]
  go_enter Try.func15, Try.ntmps15
  go_wp2
  go_ret
  exact ⟨rfl, by go_grown⟩
set_option maxHeartbeats 1000000 in
theorem versionNumber_ok (t y n : Int) (w : World) (hR : vR t y n = true) : Calls Try.prog 16 #[.agg #[.int .i64 t, .int .i64 y, .int .i64 n]] w fun e w' => e = .returned (.int .u64 (vNum t y n)) ∧ Below w.heap.size w w' := by
  have h := vR_iff.1 hR
  have t1 : 0 ≤ t := by omega
  have t2 : t ≤ 1048575 := by omega
  have y1 : 1 ≤ y := by omega
  have y2 : y ≤ 1048575 := by omega
  have n1 : 0 ≤ n := by omega
  have n2 : n ≤ 4095 := by omega
  clear h hR
  go_enter Try.func16, Try.ntmps16
  go_wp2
  go_ret
  exact ⟨rfl, by go_grown⟩
set_option maxHeartbeats 1000000 in
theorem versionOf_far (x : Int) (w : World) (h1 : 4503599627370496 ≤ x) (h2 : x ≤ 18446744073709551615) :
    Calls Try.prog 18 #[.int .u64 x] w fun e w' => e = .returned (.tuple #[.agg #[.int .i64 0, .int .i64 0, .int .i64 0], .bool false]) ∧ Below w.heap.size w w' := by
  have hq : 1048575 < x / 4294967296 := by omega
  go_enter Try.func18, Try.ntmps18
  go_wp2
  refine bodyPost_ret (v := .tuple #[.agg #[.int .i64 0, .int .i64 0, .int .i64 0], .bool false]) (by simp [results, Try.results18, go_sem]) rfl ⟨rfl, ?_⟩
  repeat' (first | exact Below.refl _ _ | apply below_drewN | (refine Below.alloc ?_ (by simp) _) | (refine Below.setCell ?_ (by simp) _))
set_option maxHeartbeats 1000000 in
theorem versionOf_ok (x : Int) (w : World) (h0 : 0 ≤ x) (h1 : x < 4503599627370496) (hR : vR (x / 4294967296 % 1048576) (x / 4096 % 1048576) (x % 4096) = true) :
    Calls Try.prog 18 #[.int .u64 x] w fun e w' => e = .returned (.tuple #[.agg #[.int .i64 (x / 4294967296 % 1048576), .int .i64 (x / 4096 % 1048576), .int .i64 (x % 4096)], .bool true]) ∧ Below w.heap.size w w' := by
  have hq : x / 4294967296 ≤ 1048575 := by omega
  have hm : x / 4294967296 % 1048576 = x / 4294967296 := by omega
  rw [hm] at hR ⊢
  clear hm
  go_enter Try.func18, Try.ntmps18
  go_wp2_with fail
  refine (rightVersion_any _ _ _ _).mono ?_
  rw [hR]
  rintro e w1 ⟨rfl, hb⟩
  obtain ⟨⟨c0, c1, c2⟩, ⟨d0, d1, d2⟩⟩ := blk3 hb (g := w.heap.size) (by simp; omega) (heap_alloc_lt _ _ _ _ (heap_alloc_at _ _ _ (by simp)))
  obtain ⟨⟨u0, u1, u2⟩, _⟩ := blk3 hb (g := w.heap.size + 1) (by simp) (heap_alloc_at _ _ _ (by simp))
  go_wp2
  refine bodyPost_ret (v := .tuple #[.agg #[.int .i64 (x / 4294967296), .int .i64 (x / 4096 % 1048576), .int .i64 (x % 4096)], .bool true]) (by simp [results, Try.results18, go_sem, c0, c1, c2]) rfl ⟨rfl, ?_⟩
  clear c0 c1 c2 d0 d1 d2 u0 u1 u2
  have hb' := ((Below.refl w.heap.size w).alloc (Nat.le_refl _) (.cells #[.int .i64 0, .int .i64 0, .int .i64 0] 37)).alloc (by simp) (.cells #[.int .i64 (x / 4294967296), .int .i64 (x / 4096 % 1048576), .int .i64 (x % 4096)] 37) |>.trans (hb.mono (B' := w.heap.size) (by simp; omega))
  exact ((hb'.setCell (by simp) _).setCell (by simp) _).setCell (by simp) _
set_option maxHeartbeats 1000000 in
theorem versionOf_bad (x : Int) (w : World) (h0 : 0 ≤ x) (h1 : x < 4503599627370496) (hR : vR (x / 4294967296 % 1048576) (x / 4096 % 1048576) (x % 4096) = false) :
    Calls Try.prog 18 #[.int .u64 x] w fun e w' => e = .returned (.tuple #[.agg #[.int .i64 0, .int .i64 0, .int .i64 0], .bool false]) ∧ Below w.heap.size w w' := by
  have hq : x / 4294967296 ≤ 1048575 := by omega
  have hm : x / 4294967296 % 1048576 = x / 4294967296 := by omega
  rw [hm] at hR
  clear hm
  go_enter Try.func18, Try.ntmps18
  go_wp2_with fail
  refine (rightVersion_any _ _ _ _).mono ?_
  rw [hR]
  rintro e w1 ⟨rfl, hb⟩
  obtain ⟨⟨c0, c1, c2⟩, ⟨d0, d1, d2⟩⟩ := blk3 hb (g := w.heap.size) (by simp; omega) (heap_alloc_lt _ _ _ _ (heap_alloc_at _ _ _ (by simp)))
  obtain ⟨⟨u0, u1, u2⟩, _⟩ := blk3 hb (g := w.heap.size + 1) (by simp) (heap_alloc_at _ _ _ (by simp))
  go_wp2
  refine bodyPost_ret (v := .tuple #[.agg #[.int .i64 0, .int .i64 0, .int .i64 0], .bool false]) (by simp [results, Try.results18, go_sem, c0, c1, c2]) rfl ⟨rfl, ?_⟩
  clear c0 c1 c2 d0 d1 d2 u0 u1 u2
  have hb' := ((Below.refl w.heap.size w).alloc (Nat.le_refl _) (.cells #[.int .i64 0, .int .i64 0, .int .i64 0] 37)).alloc (by simp) (.cells #[.int .i64 (x / 4294967296), .int .i64 (x / 4096 % 1048576), .int .i64 (x % 4096)] 37) |>.trans (hb.mono (B' := w.heap.size) (by simp; omega))
  exact ((hb'.setCell (by simp) _).setCell (by simp) _).setCell (by simp) _
theorem less_any (x y : E) (w : World) : Calls Try.prog 22 #[.agg #[.int .i64 x.1, .int .i64 x.2.1, .int .i64 x.2.2.1, .int .i64 x.2.2.2], .agg #[.int .i64 y.1, .int .i64 y.2.1, .int .i64 y.2.2.1, .int .i64 y.2.2.2]] w fun e w' => e = .returned (.bool (ltE x y)) ∧ Gr w w' := by
  have hc := fun W => compare_any x.1 x.2.1 x.2.2.1 x.2.2.2 y.1 y.2.1 y.2.2.1 y.2.2.2 W
  have HL := Lib.hid (ltOf_cfE x y)
  unfold ltOf cfE at HL
  generalize cmpE x.1 x.2.1 x.2.2.1 x.2.2.2 y.1 y.2.1 y.2.2.1 y.2.2.2 = c at hc HL
  have HC := Lib.hid hc
  clear hc
  go_enter Try.func22, Try.ntmps22
  go_wp2_with fail
  refine (HC.out _).mono ?_
  rintro e w1 ⟨rfl, hg⟩
  go_wp2
  go_ret
  exact ⟨ret_bool HL.out, (((Gr.refl _).alloc _).alloc _).trans hg⟩
end Go.Proofs.Ytepfgaiidmbklaa.Pk
