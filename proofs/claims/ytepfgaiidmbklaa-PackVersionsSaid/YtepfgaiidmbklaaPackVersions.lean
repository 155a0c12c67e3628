/-
  Proved: whatever version and whatever number are handed in, PackVersions returns true: the numbers of versions, the versions of numbers, and the errors are what the document says. No condition.
-/
import Derived.Test.YtepfgaiidmbklaaPkLives
import Derived.Test.YtepfgaiidmbklaaPkOpen
namespace Go.Proofs.Ytepfgaiidmbklaa.packVersions
open Go.ChangeShapes Go.WideShapes Go.ChangeAt Go.RowKit Base Pk
/-- Of every number the program and the document tell one and the same version, or that there is none. -/
theorem both (x : Int) (h0 : 0 ≤ x) (h1 : x ≤ 18446744073709551615) : ∃ a b c : Int,
    ((∀ w, Calls Try.prog 17 #[.int .u64 x] w fun e w' => e = .returned (.tuple #[.agg #[.int .i64 a, .int .i64 b, .int .i64 c], .int .i64 0]) ∧ Below w.heap.size w w') ∧ (∀ w, Calls Try.prog 18 #[.int .u64 x] w fun e w' => e = .returned (.tuple #[.agg #[.int .i64 a, .int .i64 b, .int .i64 c], .bool true]) ∧ Below w.heap.size w w')) ∨
    ((∀ w, Calls Try.prog 17 #[.int .u64 x] w fun e w' => e = .returned (.tuple #[.agg #[.int .i64 a, .int .i64 b, .int .i64 c], .int .i64 5]) ∧ Below w.heap.size w w') ∧ (∀ w, Calls Try.prog 18 #[.int .u64 x] w fun e w' => e = .returned (.tuple #[.agg #[.int .i64 a, .int .i64 b, .int .i64 c], .bool false]) ∧ Below w.heap.size w w')) := by
  by_cases hx : x < 4503599627370496
  · cases hR : vR (x / 4294967296 % 1048576) (x / 4096 % 1048576) (x % 4096)
    · exact ⟨_, _, _, .inr ⟨fun w => unversion_bad x w h0 hx hR, fun w => versionOf_bad x w h0 hx hR⟩⟩
    · exact ⟨_, _, _, .inl ⟨fun w => unversion_ok x w h0 hx hR, fun w => versionOf_ok x w h0 hx hR⟩⟩
  · exact ⟨_, _, _, .inr ⟨fun w => unversion_far x w h0 (by omega) h1, fun w => versionOf_far x w (by omega) h1⟩⟩
set_option maxHeartbeats 2000000 in
theorem walk_tt (t y n x a b c : Int) (hR : vR t y n = true) (HU : Hid (∀ w, Calls Try.prog 17 #[.int .u64 x] w fun e w' => e = .returned (.tuple #[.agg #[.int .i64 a, .int .i64 b, .int .i64 c], .int .i64 0]) ∧ Below w.heap.size w w'))
    (HO : Hid (∀ w, Calls Try.prog 18 #[.int .u64 x] w fun e w' => e = .returned (.tuple #[.agg #[.int .i64 a, .int .i64 b, .int .i64 c], .bool true]) ∧ Below w.heap.size w w')) (w : World) :
    Calls Try.prog 4 #[.agg #[.int .i64 t, .int .i64 y, .int .i64 n], .int .u64 x] w fun e w' => e = .returned (.bool true) ∧ Below w.heap.size w w' := by
  have HR := Lib.hid hR
  clear hR
  have hq := eqV a b c a b c
  rw [decide_eq_true ⟨rfl, rfl, rfl⟩] at hq
  have B0 := Lib.hid ((Below.refl w.heap.size w).alloc (Nat.le_refl _) (.cells #[.int .i64 t, .int .i64 y, .int .i64 n] 37))
  go_enter Try.func4, Try.ntmps4
  go_wp2_with fail
  refine (version_ok _ _ _ _ HR.out).mono ?_
  rintro e w1 ⟨rfl, hb⟩
  have E1 := Lib.hid (keep_block hb (g := w.heap.size) (heap_alloc_at _ _ _ rfl))
  have B1 := Lib.hid (B0.out.trans (hb.mono (by simp)))
  clear B0 hb
  obtain ⟨c0, c1, c2⟩ := cells3 E1.out
  go_wp2_with fail
  refine (rightVersion_any _ _ _ _).mono ?_
  rw [HR.out]
  rintro e w2 ⟨rfl, hb⟩
  have E2 := Lib.hid (keep_block hb E1.out)
  have B2 := Lib.hid (B1.out.trans (hb.mono B1.out.size))
  clear B1 E1 hb c0 c1 c2
  obtain ⟨c0, c1, c2⟩ := cells3 E2.out
  go_wp2_with fail
  refine (versionNumber_ok _ _ _ _ HR.out).mono ?_
  rintro e w3 ⟨rfl, hb⟩
  have E3 := Lib.hid (keep_block hb E2.out)
  have B3 := Lib.hid (B2.out.trans (hb.mono B2.out.size))
  clear B2 E2 hb c0 c1 c2
  go_wp2_with fail
  refine (HU.out _).mono ?_
  rintro e w4 ⟨rfl, hb⟩
  have B4 := Lib.hid (B3.out.trans (hb.mono B3.out.size))
  clear B3 hb
  go_wp2_with fail
  refine (HO.out _).mono ?_
  rintro e w5 ⟨rfl, hb⟩
  have F5 := Lib.hid (keep_block hb (g := w4.heap.size) (heap_alloc_at _ _ _ rfl))
  have B5 := Lib.hid ((B4.out.alloc B4.out.size _).trans (hb.mono (by have := B4.out.size; simp; omega)))
  clear B4 hb
  obtain ⟨f0, f1, f2⟩ := cells3 F5.out
  have hz := heap_lt F5.out
  go_wp2_with fail
  refine (lives_any _).mono ?_
  rintro e w6 ⟨rfl, hb⟩
  have B6 := Lib.hid ((B5.out.alloc B5.out.size _).trans (hb.mono (by have := B5.out.size; simp; omega)))
  clear B5 hb f0 f1 f2 hz
  go_wp2
  go_ret
  exact ⟨rfl, B6.out⟩
set_option maxHeartbeats 2000000 in
theorem walk_tf (t y n x a b c : Int) (hR : vR t y n = true) (HU : Hid (∀ w, Calls Try.prog 17 #[.int .u64 x] w fun e w' => e = .returned (.tuple #[.agg #[.int .i64 a, .int .i64 b, .int .i64 c], .int .i64 5]) ∧ Below w.heap.size w w'))
    (HO : Hid (∀ w, Calls Try.prog 18 #[.int .u64 x] w fun e w' => e = .returned (.tuple #[.agg #[.int .i64 a, .int .i64 b, .int .i64 c], .bool false]) ∧ Below w.heap.size w w')) (w : World) :
    Calls Try.prog 4 #[.agg #[.int .i64 t, .int .i64 y, .int .i64 n], .int .u64 x] w fun e w' => e = .returned (.bool true) ∧ Below w.heap.size w w' := by
  have HR := Lib.hid hR
  clear hR
  have hq := eqV a b c a b c
  rw [decide_eq_true ⟨rfl, rfl, rfl⟩] at hq
  have B0 := Lib.hid ((Below.refl w.heap.size w).alloc (Nat.le_refl _) (.cells #[.int .i64 t, .int .i64 y, .int .i64 n] 37))
  go_enter Try.func4, Try.ntmps4
  go_wp2_with fail
  refine (version_ok _ _ _ _ HR.out).mono ?_
  rintro e w1 ⟨rfl, hb⟩
  have E1 := Lib.hid (keep_block hb (g := w.heap.size) (heap_alloc_at _ _ _ rfl))
  have B1 := Lib.hid (B0.out.trans (hb.mono (by simp)))
  clear B0 hb
  obtain ⟨c0, c1, c2⟩ := cells3 E1.out
  go_wp2_with fail
  refine (rightVersion_any _ _ _ _).mono ?_
  rw [HR.out]
  rintro e w2 ⟨rfl, hb⟩
  have E2 := Lib.hid (keep_block hb E1.out)
  have B2 := Lib.hid (B1.out.trans (hb.mono B1.out.size))
  clear B1 E1 hb c0 c1 c2
  obtain ⟨c0, c1, c2⟩ := cells3 E2.out
  go_wp2_with fail
  refine (versionNumber_ok _ _ _ _ HR.out).mono ?_
  rintro e w3 ⟨rfl, hb⟩
  have E3 := Lib.hid (keep_block hb E2.out)
  have B3 := Lib.hid (B2.out.trans (hb.mono B2.out.size))
  clear B2 E2 hb c0 c1 c2
  go_wp2_with fail
  refine (HU.out _).mono ?_
  rintro e w4 ⟨rfl, hb⟩
  have B4 := Lib.hid (B3.out.trans (hb.mono B3.out.size))
  clear B3 hb
  go_wp2_with fail
  refine (HO.out _).mono ?_
  rintro e w5 ⟨rfl, hb⟩
  have F5 := Lib.hid (keep_block hb (g := w4.heap.size) (heap_alloc_at _ _ _ rfl))
  have B5 := Lib.hid ((B4.out.alloc B4.out.size _).trans (hb.mono (by have := B4.out.size; simp; omega)))
  clear B4 hb
  obtain ⟨f0, f1, f2⟩ := cells3 F5.out
  have hz := heap_lt F5.out
  go_wp2_with fail
  refine (lives_any _).mono ?_
  rintro e w6 ⟨rfl, hb⟩
  have B6 := Lib.hid ((B5.out.alloc B5.out.size _).trans (hb.mono (by have := B5.out.size; simp; omega)))
  clear B5 hb f0 f1 f2 hz
  go_wp2
  go_ret
  exact ⟨rfl, B6.out⟩
set_option maxHeartbeats 2000000 in
theorem walk_ft (t y n x a b c : Int) (hR : vR t y n = false) (HU : Hid (∀ w, Calls Try.prog 17 #[.int .u64 x] w fun e w' => e = .returned (.tuple #[.agg #[.int .i64 a, .int .i64 b, .int .i64 c], .int .i64 0]) ∧ Below w.heap.size w w'))
    (HO : Hid (∀ w, Calls Try.prog 18 #[.int .u64 x] w fun e w' => e = .returned (.tuple #[.agg #[.int .i64 a, .int .i64 b, .int .i64 c], .bool true]) ∧ Below w.heap.size w w')) (w : World) :
    Calls Try.prog 4 #[.agg #[.int .i64 t, .int .i64 y, .int .i64 n], .int .u64 x] w fun e w' => e = .returned (.bool true) ∧ Below w.heap.size w w' := by
  have HR := Lib.hid hR
  clear hR
  have hq := eqV a b c a b c
  rw [decide_eq_true ⟨rfl, rfl, rfl⟩] at hq
  have B0 := Lib.hid ((Below.refl w.heap.size w).alloc (Nat.le_refl _) (.cells #[.int .i64 t, .int .i64 y, .int .i64 n] 37))
  go_enter Try.func4, Try.ntmps4
  go_wp2_with fail
  refine (version_bad _ _ _ _ HR.out).mono ?_
  rintro e w1 ⟨rfl, hb⟩
  have E1 := Lib.hid (keep_block hb (g := w.heap.size) (heap_alloc_at _ _ _ rfl))
  have B1 := Lib.hid (B0.out.trans (hb.mono (by simp)))
  clear B0 hb
  obtain ⟨c0, c1, c2⟩ := cells3 E1.out
  go_wp2_with fail
  refine (rightVersion_any _ _ _ _).mono ?_
  rw [HR.out]
  rintro e w2 ⟨rfl, hb⟩
  have E2 := Lib.hid (keep_block hb E1.out)
  have B2 := Lib.hid (B1.out.trans (hb.mono B1.out.size))
  clear B1 E1 hb c0 c1 c2
  go_wp2_with fail
  refine (HU.out _).mono ?_
  rintro e w3 ⟨rfl, hb⟩
  have B3 := Lib.hid (B2.out.trans (hb.mono B2.out.size))
  clear B2 hb
  go_wp2_with fail
  refine (HO.out _).mono ?_
  rintro e w4 ⟨rfl, hb⟩
  have F4 := Lib.hid (keep_block hb (g := w3.heap.size) (heap_alloc_at _ _ _ rfl))
  have B4 := Lib.hid ((B3.out.alloc B3.out.size _).trans (hb.mono (by have := B3.out.size; simp; omega)))
  clear B3 hb
  obtain ⟨f0, f1, f2⟩ := cells3 F4.out
  have hz := heap_lt F4.out
  go_wp2_with fail
  refine (lives_any _).mono ?_
  rintro e w5 ⟨rfl, hb⟩
  have B5 := Lib.hid ((B4.out.alloc B4.out.size _).trans (hb.mono (by have := B4.out.size; simp; omega)))
  clear B4 hb f0 f1 f2 hz
  go_wp2
  go_ret
  exact ⟨rfl, B5.out⟩
set_option maxHeartbeats 2000000 in
theorem walk_ff (t y n x a b c : Int) (hR : vR t y n = false) (HU : Hid (∀ w, Calls Try.prog 17 #[.int .u64 x] w fun e w' => e = .returned (.tuple #[.agg #[.int .i64 a, .int .i64 b, .int .i64 c], .int .i64 5]) ∧ Below w.heap.size w w'))
    (HO : Hid (∀ w, Calls Try.prog 18 #[.int .u64 x] w fun e w' => e = .returned (.tuple #[.agg #[.int .i64 a, .int .i64 b, .int .i64 c], .bool false]) ∧ Below w.heap.size w w')) (w : World) :
    Calls Try.prog 4 #[.agg #[.int .i64 t, .int .i64 y, .int .i64 n], .int .u64 x] w fun e w' => e = .returned (.bool true) ∧ Below w.heap.size w w' := by
  have HR := Lib.hid hR
  clear hR
  have hq := eqV a b c a b c
  rw [decide_eq_true ⟨rfl, rfl, rfl⟩] at hq
  have B0 := Lib.hid ((Below.refl w.heap.size w).alloc (Nat.le_refl _) (.cells #[.int .i64 t, .int .i64 y, .int .i64 n] 37))
  go_enter Try.func4, Try.ntmps4
  go_wp2_with fail
  refine (version_bad _ _ _ _ HR.out).mono ?_
  rintro e w1 ⟨rfl, hb⟩
  have E1 := Lib.hid (keep_block hb (g := w.heap.size) (heap_alloc_at _ _ _ rfl))
  have B1 := Lib.hid (B0.out.trans (hb.mono (by simp)))
  clear B0 hb
  obtain ⟨c0, c1, c2⟩ := cells3 E1.out
  go_wp2_with fail
  refine (rightVersion_any _ _ _ _).mono ?_
  rw [HR.out]
  rintro e w2 ⟨rfl, hb⟩
  have E2 := Lib.hid (keep_block hb E1.out)
  have B2 := Lib.hid (B1.out.trans (hb.mono B1.out.size))
  clear B1 E1 hb c0 c1 c2
  go_wp2_with fail
  refine (HU.out _).mono ?_
  rintro e w3 ⟨rfl, hb⟩
  have B3 := Lib.hid (B2.out.trans (hb.mono B2.out.size))
  clear B2 hb
  go_wp2_with fail
  refine (HO.out _).mono ?_
  rintro e w4 ⟨rfl, hb⟩
  have F4 := Lib.hid (keep_block hb (g := w3.heap.size) (heap_alloc_at _ _ _ rfl))
  have B4 := Lib.hid ((B3.out.alloc B3.out.size _).trans (hb.mono (by have := B3.out.size; simp; omega)))
  clear B3 hb
  obtain ⟨f0, f1, f2⟩ := cells3 F4.out
  have hz := heap_lt F4.out
  go_wp2_with fail
  refine (lives_any _).mono ?_
  rintro e w5 ⟨rfl, hb⟩
  have B5 := Lib.hid ((B4.out.alloc B4.out.size _).trans (hb.mono (by have := B4.out.size; simp; omega)))
  clear B4 hb f0 f1 f2 hz
  go_wp2
  go_ret
  exact ⟨rfl, B5.out⟩
theorem walk (t y n x : Int) (h0 : 0 ≤ x) (h1 : x ≤ 18446744073709551615) (w : World) :
    Calls Try.prog 4 #[.agg #[.int .i64 t, .int .i64 y, .int .i64 n], .int .u64 x] w fun e w' => e = .returned (.bool true) ∧ Below w.heap.size w w' := by
  obtain ⟨a, b, c, h⟩ := both x h0 h1
  cases hR : vR t y n
  · rcases h with ⟨hu, ho⟩ | ⟨hu, ho⟩
    · exact walk_ft t y n x a b c hR (Lib.hid hu) (Lib.hid ho) w
    · exact walk_ff t y n x a b c hR (Lib.hid hu) (Lib.hid ho) w
  · rcases h with ⟨hu, ho⟩ | ⟨hu, ho⟩
    · exact walk_tt t y n x a b c hR (Lib.hid hu) (Lib.hid ho) w
    · exact walk_tf t y n x a b c hR (Lib.hid hu) (Lib.hid ho) w
set_option maxRecDepth 100000 in
theorem lifted (os : Os) (started : os.Started) (H : Type) (enc : TypeId × Value → H) :
    ReturnsInHanded {} Try.checked os 4 .any (Rows.packVersionsSpec.pre6 enc Try.prog Try.f4 Rows.packVersionsRow.domain false) (Rows.packVersionsSpec.post enc Try.prog Try.f4 false true false false) := by
  refine returnsInHanded_of_change (C := Try.checked) own started (by kernel_rfl) Try.func4
    (ChangeSpec.witness6 (enc := enc) (C := Try.checked) false ⟨#[], #[.agg #[.int .i64 0, .int .i64 0, .int .i64 0], .int .u64 0], []⟩ 8 (by kernel_rfl) (by kernel_rfl) (by kernel_rfl) (by kernel_rfl)) ?_
  intro W base args ds gs before hval0 hW hcnd _
  have hval : ∀ (j : Nat) t v, Try.f4.params[j]? = some t → args[j]? = some v → Value.okWide Try.prog W .any base t v := hval0
  have hW' := hW
  obtain ⟨p, q, hA0, hV, rfl, hfz, hnd⟩ := hW
  have hA : DataW.TrodAll enc Try.prog W 0 (fun _ => true) true Try.f4.params.toList args.toList ds p := hA0
  rw [Try.params4] at hA hval
  obtain ⟨v0, vs0, d0, ds0, p0, q0, hargs, rfl, rfl, r0, r0'⟩ := trodAll_cons hA
  obtain ⟨v1, vs1, d1, ds1, p1, q1, rfl, rfl, rfl, r1, r1'⟩ := trodAll_cons r0'
  obtain ⟨rfl, rfl, rfl⟩ := trodAll_nil r1'
  obtain rfl : args = #[v0, v1] := by cases args; simp_all
  obtain ⟨rfl, rfl⟩ := trodVars_none hV
  obtain ⟨t, y, n, rfl, rfl, rfl, w0, w1, w2⟩ := open_version (hval 0 37 v0 rfl rfl) r0
  obtain ⟨x, rfl, rfl, rfl, w4⟩ := open_int Try.underlying24 (hval 1 24 v1 rfl rfl) r1
  clear hA0 hval0
  simp only [List.append_nil] at hW'
  have hx : 0 ≤ x ∧ x ≤ 18446744073709551615 := bounds_u64 w4
  refine (walk t y n x hx.1 hx.2 W).mono fun e W' ⟨he, hb⟩ => ?_
  subst he
  exact ⟨_, rfl, _, _, _, [], [], [], hW', trodAll_cons_mk (shut_bool Try.underlying4 _) trodAll_mk0, trodAll_cons_mk (shut_version w0 w1 w2) (trodAll_cons_mk (shut_int Try.underlying24 w4) trodAll_mk0), rfl, hb.frame _, fun h => by cases h⟩
theorem over : Rows.packVersionsRow.holds Try.pinned (OpenSpec.ofChange Rows.packVersionsSpec) :=
  OpenClaim.holds_of_wide 4 Try.f4 rfl rfl rfl rfl rfl rfl rfl ⟨rfl, rfl, rfl, rfl, rfl⟩ rfl rfl rfl rfl rfl (by kernel_rfl) Try.func4 (by kernel_rfl)
    (of_decide_eq_true (by kernel_rfl)) (by unfold Func.isWrapper; rw [if_neg (by decide +kernel)]; exact ⟨rfl, rfl⟩)
    (fun os started H enc _ => lifted os started H enc)
theorem proved : Rows.PackVersionsSaid := over
#print axioms proved
end Go.Proofs.Ytepfgaiidmbklaa.packVersions
