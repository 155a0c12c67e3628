/-
  Proved: whatever edge and whatever number are handed in, PackEdges returns true: the numbers of edges, the edges of numbers, and the errors are what the document says. No condition.
-/
import Derived.Test.YtepfgaiidmbklaaPkLives
import Derived.Test.YtepfgaiidmbklaaPkOpen
namespace Go.Proofs.Ytepfgaiidmbklaa.packEdges
open Go.ChangeShapes Go.WideShapes Go.ChangeAt Go.RowKit Base Pk
/-- Of every number the program and the document tell one and the same edge, or that there is none. -/
theorem both (x : Int) (h0 : 0 ≤ x) (h1 : x ≤ 18446744073709551615) : ∃ a b c d : Int,
    ((∀ w, Calls Try.prog 11 #[.int .u64 x] w fun e w' => e = .returned (.tuple #[.agg #[.int .i64 a, .int .i64 b, .int .i64 c, .int .i64 d], .int .i64 0]) ∧ Below w.heap.size w w') ∧ (∀ w, Calls Try.prog 12 #[.int .u64 x] w fun e w' => e = .returned (.tuple #[.agg #[.int .i64 a, .int .i64 b, .int .i64 c, .int .i64 d], .bool true]) ∧ Below w.heap.size w w')) ∨
    ((∀ w, Calls Try.prog 11 #[.int .u64 x] w fun e w' => e = .returned (.tuple #[.agg #[.int .i64 a, .int .i64 b, .int .i64 c, .int .i64 d], .int .i64 5]) ∧ Below w.heap.size w w') ∧ (∀ w, Calls Try.prog 12 #[.int .u64 x] w fun e w' => e = .returned (.tuple #[.agg #[.int .i64 a, .int .i64 b, .int .i64 c, .int .i64 d], .bool false]) ∧ Below w.heap.size w w')) := by
  by_cases hx : x < 4611686018427387904
  · cases hR : eR (x / 4398046511104 % 1048576) (x % 1048576) (x / 1099511627776 % 4) (x / 1048576 % 1048576)
    · exact ⟨_, _, _, _, .inr ⟨fun w => unedge_bad x w h0 hx hR, fun w => edgeOf_bad x w h0 hx hR⟩⟩
    · exact ⟨_, _, _, _, .inl ⟨fun w => unedge_ok x w h0 hx hR, fun w => edgeOf_ok x w h0 hx hR⟩⟩
  · exact ⟨_, _, _, _, .inr ⟨fun w => unedge_far x w h0 (by omega) h1, fun w => edgeOf_far x w (by omega) h1⟩⟩
set_option maxHeartbeats 2000000 in
theorem walk_tt (f t k y x a b c d : Int) (hR : eR f t k y = true) (HU : Hid (∀ w, Calls Try.prog 11 #[.int .u64 x] w fun e w' => e = .returned (.tuple #[.agg #[.int .i64 a, .int .i64 b, .int .i64 c, .int .i64 d], .int .i64 0]) ∧ Below w.heap.size w w'))
    (HO : Hid (∀ w, Calls Try.prog 12 #[.int .u64 x] w fun e w' => e = .returned (.tuple #[.agg #[.int .i64 a, .int .i64 b, .int .i64 c, .int .i64 d], .bool true]) ∧ Below w.heap.size w w')) (w : World) :
    Calls Try.prog 3 #[.agg #[.int .i64 f, .int .i64 t, .int .i64 k, .int .i64 y], .int .u64 x] w fun e w' => e = .returned (.bool true) ∧ Below w.heap.size w w' := by
  have HR := Lib.hid hR
  clear hR
  have hq := eqE (a, b, c, d) (a, b, c, d)
  rw [decide_eq_true rfl] at hq
  have B0 := Lib.hid ((Below.refl w.heap.size w).alloc (Nat.le_refl _) (.cells #[.int .i64 f, .int .i64 t, .int .i64 k, .int .i64 y] 23))
  go_enter Try.func3, Try.ntmps3
  go_wp2_with fail
  refine (edge_ok _ _ _ _ _ HR.out).mono ?_
  rintro e w1 ⟨rfl, hb⟩
  have E1 := Lib.hid (keep_block hb (g := w.heap.size) (heap_alloc_at _ _ _ rfl))
  have B1 := Lib.hid (B0.out.trans (hb.mono (by simp)))
  clear B0 hb
  obtain ⟨c0, c1, c2, c3⟩ := cells4 E1.out
  go_wp2_with fail
  refine (rightEdge_any _ _ _ _ _).mono ?_
  rw [HR.out]
  rintro e w2 ⟨rfl, hb⟩
  have E2 := Lib.hid (keep_block hb E1.out)
  have B2 := Lib.hid (B1.out.trans (hb.mono B1.out.size))
  clear B1 E1 hb c0 c1 c2 c3
  obtain ⟨c0, c1, c2, c3⟩ := cells4 E2.out
  go_wp2_with fail
  refine (edgeNumber_ok _ _ _ _ _ HR.out).mono ?_
  rintro e w3 ⟨rfl, hb⟩
  have E3 := Lib.hid (keep_block hb E2.out)
  have B3 := Lib.hid (B2.out.trans (hb.mono B2.out.size))
  clear B2 E2 hb c0 c1 c2 c3
  go_wp2_with fail
  refine (HU.out _).mono ?_
  rintro e w4 ⟨rfl, hb⟩
  have B4 := Lib.hid (B3.out.trans (hb.mono B3.out.size))
  clear B3 hb
  go_wp2_with fail
  refine (HO.out _).mono ?_
  rintro e w5 ⟨rfl, hb⟩
  have F5 := Lib.hid (keep_block hb (g := w4.heap.size) (heap_alloc_at _ _ _ rfl))
  have B5 := Lib.hid ((B4.out.alloc B4.out.size _).trans (hb.mono (by have := B4.out.size; simp; omega)))
  clear B4 hb
  obtain ⟨f0, f1, f2, f3⟩ := cells4 F5.out
  have hz := heap_lt F5.out
  go_wp2_with fail
  refine (lives_any _).mono ?_
  rintro e w6 ⟨rfl, hb⟩
  have B6 := Lib.hid ((B5.out.alloc B5.out.size _).trans (hb.mono (by have := B5.out.size; simp; omega)))
  clear B5 hb f0 f1 f2 f3 hz
  go_wp2
  go_ret
  exact ⟨rfl, B6.out⟩
set_option maxHeartbeats 2000000 in
theorem walk_tf (f t k y x a b c d : Int) (hR : eR f t k y = true) (HU : Hid (∀ w, Calls Try.prog 11 #[.int .u64 x] w fun e w' => e = .returned (.tuple #[.agg #[.int .i64 a, .int .i64 b, .int .i64 c, .int .i64 d], .int .i64 5]) ∧ Below w.heap.size w w'))
    (HO : Hid (∀ w, Calls Try.prog 12 #[.int .u64 x] w fun e w' => e = .returned (.tuple #[.agg #[.int .i64 a, .int .i64 b, .int .i64 c, .int .i64 d], .bool false]) ∧ Below w.heap.size w w')) (w : World) :
    Calls Try.prog 3 #[.agg #[.int .i64 f, .int .i64 t, .int .i64 k, .int .i64 y], .int .u64 x] w fun e w' => e = .returned (.bool true) ∧ Below w.heap.size w w' := by
  have HR := Lib.hid hR
  clear hR
  have hq := eqE (a, b, c, d) (a, b, c, d)
  rw [decide_eq_true rfl] at hq
  have B0 := Lib.hid ((Below.refl w.heap.size w).alloc (Nat.le_refl _) (.cells #[.int .i64 f, .int .i64 t, .int .i64 k, .int .i64 y] 23))
  go_enter Try.func3, Try.ntmps3
  go_wp2_with fail
  refine (edge_ok _ _ _ _ _ HR.out).mono ?_
  rintro e w1 ⟨rfl, hb⟩
  have E1 := Lib.hid (keep_block hb (g := w.heap.size) (heap_alloc_at _ _ _ rfl))
  have B1 := Lib.hid (B0.out.trans (hb.mono (by simp)))
  clear B0 hb
  obtain ⟨c0, c1, c2, c3⟩ := cells4 E1.out
  go_wp2_with fail
  refine (rightEdge_any _ _ _ _ _).mono ?_
  rw [HR.out]
  rintro e w2 ⟨rfl, hb⟩
  have E2 := Lib.hid (keep_block hb E1.out)
  have B2 := Lib.hid (B1.out.trans (hb.mono B1.out.size))
  clear B1 E1 hb c0 c1 c2 c3
  obtain ⟨c0, c1, c2, c3⟩ := cells4 E2.out
  go_wp2_with fail
  refine (edgeNumber_ok _ _ _ _ _ HR.out).mono ?_
  rintro e w3 ⟨rfl, hb⟩
  have E3 := Lib.hid (keep_block hb E2.out)
  have B3 := Lib.hid (B2.out.trans (hb.mono B2.out.size))
  clear B2 E2 hb c0 c1 c2 c3
  go_wp2_with fail
  refine (HU.out _).mono ?_
  rintro e w4 ⟨rfl, hb⟩
  have B4 := Lib.hid (B3.out.trans (hb.mono B3.out.size))
  clear B3 hb
  go_wp2_with fail
  refine (HO.out _).mono ?_
  rintro e w5 ⟨rfl, hb⟩
  have F5 := Lib.hid (keep_block hb (g := w4.heap.size) (heap_alloc_at _ _ _ rfl))
  have B5 := Lib.hid ((B4.out.alloc B4.out.size _).trans (hb.mono (by have := B4.out.size; simp; omega)))
  clear B4 hb
  obtain ⟨f0, f1, f2, f3⟩ := cells4 F5.out
  have hz := heap_lt F5.out
  go_wp2_with fail
  refine (lives_any _).mono ?_
  rintro e w6 ⟨rfl, hb⟩
  have B6 := Lib.hid ((B5.out.alloc B5.out.size _).trans (hb.mono (by have := B5.out.size; simp; omega)))
  clear B5 hb f0 f1 f2 f3 hz
  go_wp2
  go_ret
  exact ⟨rfl, B6.out⟩
set_option maxHeartbeats 2000000 in
theorem walk_ft (f t k y x a b c d : Int) (hR : eR f t k y = false) (HU : Hid (∀ w, Calls Try.prog 11 #[.int .u64 x] w fun e w' => e = .returned (.tuple #[.agg #[.int .i64 a, .int .i64 b, .int .i64 c, .int .i64 d], .int .i64 0]) ∧ Below w.heap.size w w'))
    (HO : Hid (∀ w, Calls Try.prog 12 #[.int .u64 x] w fun e w' => e = .returned (.tuple #[.agg #[.int .i64 a, .int .i64 b, .int .i64 c, .int .i64 d], .bool true]) ∧ Below w.heap.size w w')) (w : World) :
    Calls Try.prog 3 #[.agg #[.int .i64 f, .int .i64 t, .int .i64 k, .int .i64 y], .int .u64 x] w fun e w' => e = .returned (.bool true) ∧ Below w.heap.size w w' := by
  have HR := Lib.hid hR
  clear hR
  have hq := eqE (a, b, c, d) (a, b, c, d)
  rw [decide_eq_true rfl] at hq
  have B0 := Lib.hid ((Below.refl w.heap.size w).alloc (Nat.le_refl _) (.cells #[.int .i64 f, .int .i64 t, .int .i64 k, .int .i64 y] 23))
  go_enter Try.func3, Try.ntmps3
  go_wp2_with fail
  refine (edge_bad _ _ _ _ _ HR.out).mono ?_
  rintro e w1 ⟨rfl, hb⟩
  have E1 := Lib.hid (keep_block hb (g := w.heap.size) (heap_alloc_at _ _ _ rfl))
  have B1 := Lib.hid (B0.out.trans (hb.mono (by simp)))
  clear B0 hb
  obtain ⟨c0, c1, c2, c3⟩ := cells4 E1.out
  go_wp2_with fail
  refine (rightEdge_any _ _ _ _ _).mono ?_
  rw [HR.out]
  rintro e w2 ⟨rfl, hb⟩
  have E2 := Lib.hid (keep_block hb E1.out)
  have B2 := Lib.hid (B1.out.trans (hb.mono B1.out.size))
  clear B1 E1 hb c0 c1 c2 c3
  go_wp2_with fail
  refine (HU.out _).mono ?_
  rintro e w3 ⟨rfl, hb⟩
  have B3 := Lib.hid (B2.out.trans (hb.mono B2.out.size))
  clear B2 hb
  go_wp2_with fail
  refine (HO.out _).mono ?_
  rintro e w4 ⟨rfl, hb⟩
  have F4 := Lib.hid (keep_block hb (g := w3.heap.size) (heap_alloc_at _ _ _ rfl))
  have B4 := Lib.hid ((B3.out.alloc B3.out.size _).trans (hb.mono (by have := B3.out.size; simp; omega)))
  clear B3 hb
  obtain ⟨f0, f1, f2, f3⟩ := cells4 F4.out
  have hz := heap_lt F4.out
  go_wp2_with fail
  refine (lives_any _).mono ?_
  rintro e w5 ⟨rfl, hb⟩
  have B5 := Lib.hid ((B4.out.alloc B4.out.size _).trans (hb.mono (by have := B4.out.size; simp; omega)))
  clear B4 hb f0 f1 f2 f3 hz
  go_wp2
  go_ret
  exact ⟨rfl, B5.out⟩
set_option maxHeartbeats 2000000 in
theorem walk_ff (f t k y x a b c d : Int) (hR : eR f t k y = false) (HU : Hid (∀ w, Calls Try.prog 11 #[.int .u64 x] w fun e w' => e = .returned (.tuple #[.agg #[.int .i64 a, .int .i64 b, .int .i64 c, .int .i64 d], .int .i64 5]) ∧ Below w.heap.size w w'))
    (HO : Hid (∀ w, Calls Try.prog 12 #[.int .u64 x] w fun e w' => e = .returned (.tuple #[.agg #[.int .i64 a, .int .i64 b, .int .i64 c, .int .i64 d], .bool false]) ∧ Below w.heap.size w w')) (w : World) :
    Calls Try.prog 3 #[.agg #[.int .i64 f, .int .i64 t, .int .i64 k, .int .i64 y], .int .u64 x] w fun e w' => e = .returned (.bool true) ∧ Below w.heap.size w w' := by
  have HR := Lib.hid hR
  clear hR
  have hq := eqE (a, b, c, d) (a, b, c, d)
  rw [decide_eq_true rfl] at hq
  have B0 := Lib.hid ((Below.refl w.heap.size w).alloc (Nat.le_refl _) (.cells #[.int .i64 f, .int .i64 t, .int .i64 k, .int .i64 y] 23))
  go_enter Try.func3, Try.ntmps3
  go_wp2_with fail
  refine (edge_bad _ _ _ _ _ HR.out).mono ?_
  rintro e w1 ⟨rfl, hb⟩
  have E1 := Lib.hid (keep_block hb (g := w.heap.size) (heap_alloc_at _ _ _ rfl))
  have B1 := Lib.hid (B0.out.trans (hb.mono (by simp)))
  clear B0 hb
  obtain ⟨c0, c1, c2, c3⟩ := cells4 E1.out
  go_wp2_with fail
  refine (rightEdge_any _ _ _ _ _).mono ?_
  rw [HR.out]
  rintro e w2 ⟨rfl, hb⟩
  have E2 := Lib.hid (keep_block hb E1.out)
  have B2 := Lib.hid (B1.out.trans (hb.mono B1.out.size))
  clear B1 E1 hb c0 c1 c2 c3
  go_wp2_with fail
  refine (HU.out _).mono ?_
  rintro e w3 ⟨rfl, hb⟩
  have B3 := Lib.hid (B2.out.trans (hb.mono B2.out.size))
  clear B2 hb
  go_wp2_with fail
  refine (HO.out _).mono ?_
  rintro e w4 ⟨rfl, hb⟩
  have F4 := Lib.hid (keep_block hb (g := w3.heap.size) (heap_alloc_at _ _ _ rfl))
  have B4 := Lib.hid ((B3.out.alloc B3.out.size _).trans (hb.mono (by have := B3.out.size; simp; omega)))
  clear B3 hb
  obtain ⟨f0, f1, f2, f3⟩ := cells4 F4.out
  have hz := heap_lt F4.out
  go_wp2_with fail
  refine (lives_any _).mono ?_
  rintro e w5 ⟨rfl, hb⟩
  have B5 := Lib.hid ((B4.out.alloc B4.out.size _).trans (hb.mono (by have := B4.out.size; simp; omega)))
  clear B4 hb f0 f1 f2 f3 hz
  go_wp2
  go_ret
  exact ⟨rfl, B5.out⟩
theorem walk (f t k y x : Int) (h0 : 0 ≤ x) (h1 : x ≤ 18446744073709551615) (w : World) :
    Calls Try.prog 3 #[.agg #[.int .i64 f, .int .i64 t, .int .i64 k, .int .i64 y], .int .u64 x] w fun e w' => e = .returned (.bool true) ∧ Below w.heap.size w w' := by
  obtain ⟨a, b, c, d, h⟩ := both x h0 h1
  cases hR : eR f t k y
  · rcases h with ⟨hu, ho⟩ | ⟨hu, ho⟩
    · exact walk_ft f t k y x a b c d hR (Lib.hid hu) (Lib.hid ho) w
    · exact walk_ff f t k y x a b c d hR (Lib.hid hu) (Lib.hid ho) w
  · rcases h with ⟨hu, ho⟩ | ⟨hu, ho⟩
    · exact walk_tt f t k y x a b c d hR (Lib.hid hu) (Lib.hid ho) w
    · exact walk_tf f t k y x a b c d hR (Lib.hid hu) (Lib.hid ho) w
set_option maxRecDepth 100000 in
theorem lifted (os : Os) (started : os.Started) (H : Type) (enc : TypeId × Value → H) :
    ReturnsInHanded {} Try.checked os 3 .any (Rows.packEdgesSpec.pre6 enc Try.prog Try.f3 Rows.packEdgesRow.domain false) (Rows.packEdgesSpec.post enc Try.prog Try.f3 false true false false) := by
  refine returnsInHanded_of_change (C := Try.checked) own started (by kernel_rfl) Try.func3
    (ChangeSpec.witness6 (enc := enc) (C := Try.checked) false ⟨#[], #[.agg #[.int .i64 0, .int .i64 0, .int .i64 0, .int .i64 0], .int .u64 0], []⟩ 8 (by kernel_rfl) (by kernel_rfl) (by kernel_rfl) (by kernel_rfl)) ?_
  intro W base args ds gs before hval0 hW hcnd _
  have hval : ∀ (j : Nat) t v, Try.f3.params[j]? = some t → args[j]? = some v → Value.okWide Try.prog W .any base t v := hval0
  have hW' := hW
  obtain ⟨p, q, hA0, hV, rfl, hfz, hnd⟩ := hW
  have hA : DataW.TrodAll enc Try.prog W 0 (fun _ => true) true Try.f3.params.toList args.toList ds p := hA0
  rw [Try.params3] at hA hval
  obtain ⟨v0, vs0, d0, ds0, p0, q0, hargs, rfl, rfl, r0, r0'⟩ := trodAll_cons hA
  obtain ⟨v1, vs1, d1, ds1, p1, q1, rfl, rfl, rfl, r1, r1'⟩ := trodAll_cons r0'
  obtain ⟨rfl, rfl, rfl⟩ := trodAll_nil r1'
  obtain rfl : args = #[v0, v1] := by cases args; simp_all
  obtain ⟨rfl, rfl⟩ := trodVars_none hV
  obtain ⟨f, t, k, y, rfl, rfl, rfl, w0, w1, w2, w3⟩ := open_edge (hval 0 23 v0 rfl rfl) r0
  obtain ⟨x, rfl, rfl, rfl, w4⟩ := open_int Try.underlying24 (hval 1 24 v1 rfl rfl) r1
  clear hA0 hval0
  simp only [List.append_nil] at hW'
  have hx : 0 ≤ x ∧ x ≤ 18446744073709551615 := bounds_u64 w4
  refine (walk f t k y x hx.1 hx.2 W).mono fun e W' ⟨he, hb⟩ => ?_
  subst he
  exact ⟨_, rfl, _, _, _, [], [], [], hW', trodAll_cons_mk (shut_bool Try.underlying4 _) trodAll_mk0, trodAll_cons_mk (shut_edge w0 w1 w2 w3) (trodAll_cons_mk (shut_int Try.underlying24 w4) trodAll_mk0), rfl, hb.frame _, fun h => by cases h⟩
theorem over : Rows.packEdgesRow.holds Try.pinned (OpenSpec.ofChange Rows.packEdgesSpec) :=
  OpenClaim.holds_of_wide 3 Try.f3 rfl rfl rfl rfl rfl rfl rfl ⟨rfl, rfl, rfl, rfl, rfl⟩ rfl rfl rfl rfl rfl (by kernel_rfl) Try.func3 (by kernel_rfl)
    (of_decide_eq_true (by kernel_rfl)) (by unfold Func.isWrapper; rw [if_neg (by decide +kernel)]; exact ⟨rfl, rfl⟩)
    (fun os started H enc _ => lifted os started H enc)
theorem proved : Rows.PackEdgesSaid := over
#print axioms proved
end Go.Proofs.Ytepfgaiidmbklaa.packEdges
