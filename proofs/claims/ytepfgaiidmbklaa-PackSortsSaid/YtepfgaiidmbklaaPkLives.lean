/-
  The statements' own first question, lives: whatever the memory: it is answered with true, and what was there is as it was. Not a statement of the seat.
-/
import Derived.Test.YtepfgaiidmbklaaPkLivesA
namespace Go.Proofs.Ytepfgaiidmbklaa.Pk
open Go.ChangeShapes Go.WideShapes Go.ChangeAt Go.RowKit Base Go.Shelf Go.Lib Go.Sort
set_option maxHeartbeats 4000000 in
set_option maxRecDepth 100000 in
theorem lives_any (w : World) : Calls Try.prog 13 #[] w fun e w' => e = .returned (.bool true) ∧ Below w.heap.size w w' := by
  have q1 := eq_1
  have q2 := eq_2
  have B0 : Hid (Below w.heap.size w ((w.alloc (.cells #[.int .i64 1, .int .i64 2, .int .i64 2, .int .i64 3] 23)).alloc (.cells #[.int .i64 2, .int .i64 1, .int .i64 3] 37))) := Lib.hid (((Below.refl _ w).alloc (Nat.le_refl _) _).alloc (by simp) _)
  go_enter Try.func13, Try.ntmps13
  go_wp2_with fail
  refine (edge_1 _).mono ?_
  rintro e w1 ⟨rfl, hb⟩
  have E1 := Lib.hid (keep_block hb (g := w.heap.size) (heap_alloc_lt _ _ _ _ (heap_alloc_at _ _ _ rfl)))
  have V1 := Lib.hid (keep_block hb (g := w.heap.size + 1) (heap_alloc_at _ _ _ (by simp)))
  have B1 := Lib.hid (B0.out.trans (hb.mono (by simp; omega)))
  clear B0
  clear hb
  go_wp2_with fail
  refine (unedge_1 _).mono ?_
  rintro e w2 ⟨rfl, hb⟩
  have E2 := Lib.hid (keep_block hb (E1.out))
  clear E1
  have V2 := Lib.hid (keep_block hb (V1.out))
  clear V1
  have B2 := Lib.hid (B1.out.trans (hb.mono B1.out.size))
  clear B1
  clear hb
  go_wp2_with fail
  refine (edge_bad 1 0 2 3 _ (by decide)).mono ?_
  rintro e w3 ⟨rfl, hb⟩
  have E3 := Lib.hid (keep_block hb (heap_alloc_lt _ _ _ _ E2.out))
  clear E2
  have V3 := Lib.hid (keep_block hb (heap_alloc_lt _ _ _ _ V2.out))
  clear V2
  have F3 := Lib.hid (keep_block hb (g := w2.heap.size) (heap_alloc_at _ _ _ rfl))
  have B3 := Lib.hid ((B2.out.alloc B2.out.size _).trans (hb.mono (by have := B2.out.size; simp; omega)))
  clear B2
  clear hb
  go_wp2_with fail
  refine (unedge_7 _).mono ?_
  rintro e w4 ⟨rfl, hb⟩
  have E4 := Lib.hid (keep_block hb (E3.out))
  clear E3
  have V4 := Lib.hid (keep_block hb (V3.out))
  clear V3
  have F4 := Lib.hid (keep_block hb (F3.out))
  clear F3
  have B4 := Lib.hid (B3.out.trans (hb.mono B3.out.size))
  clear B3
  clear hb
  obtain ⟨v0, v1, v2⟩ := cells3 V4.out
  have hz := heap_lt V4.out
  go_wp2_with fail
  refine (version_1 _).mono ?_
  rintro e w5 ⟨rfl, hb⟩
  have E5 := Lib.hid (keep_block hb (heap_alloc_lt _ _ _ _ E4.out))
  clear E4
  have V5 := Lib.hid (keep_block hb (heap_alloc_lt _ _ _ _ V4.out))
  clear V4
  have F5 := Lib.hid (keep_block hb (heap_alloc_lt _ _ _ _ F4.out))
  clear F4
  have B5 := Lib.hid ((B4.out.alloc B4.out.size _).trans (hb.mono (by have := B4.out.size; simp; omega)))
  clear B4
  clear hb
  clear v0 v1 v2 hz
  go_wp2_with fail
  refine (unversion_1 _).mono ?_
  rintro e w6 ⟨rfl, hb⟩
  have E6 := Lib.hid (keep_block hb (E5.out))
  clear E5
  have V6 := Lib.hid (keep_block hb (V5.out))
  clear V5
  have F6 := Lib.hid (keep_block hb (F5.out))
  clear F5
  have B6 := Lib.hid (B5.out.trans (hb.mono B5.out.size))
  clear B5
  clear hb
  go_wp2_with fail
  refine (version_2 _).mono ?_
  rintro e w7 ⟨rfl, hb⟩
  have E7 := Lib.hid (keep_block hb (heap_alloc_lt _ _ _ _ E6.out))
  clear E6
  have V7 := Lib.hid (keep_block hb (heap_alloc_lt _ _ _ _ V6.out))
  clear V6
  have F7 := Lib.hid (keep_block hb (heap_alloc_lt _ _ _ _ F6.out))
  clear F6
  have U7 := Lib.hid (keep_block hb (g := w6.heap.size) (heap_alloc_at _ _ _ rfl))
  have B7 := Lib.hid ((B6.out.alloc B6.out.size _).trans (hb.mono (by have := B6.out.size; simp; omega)))
  clear B6
  clear hb
  go_wp2_with fail
  refine (version_bad 0 1 1 _ (by decide)).mono ?_
  rintro e w8 ⟨rfl, hb⟩
  have E8 := Lib.hid (keep_block hb (E7.out))
  clear E7
  have V8 := Lib.hid (keep_block hb (V7.out))
  clear V7
  have F8 := Lib.hid (keep_block hb (F7.out))
  clear F7
  have U8 := Lib.hid (keep_block hb (U7.out))
  clear U7
  have B8 := Lib.hid (B7.out.trans (hb.mono B7.out.size))
  clear B7
  clear hb
  go_wp2_with fail
  refine (unversion_far1 _).mono ?_
  rintro e w9 ⟨rfl, hb⟩
  have E9 := Lib.hid (keep_block hb (E8.out))
  clear E8
  have V9 := Lib.hid (keep_block hb (V8.out))
  clear V8
  have F9 := Lib.hid (keep_block hb (F8.out))
  clear F8
  have U9 := Lib.hid (keep_block hb (U8.out))
  clear U8
  have B9 := Lib.hid (B8.out.trans (hb.mono B8.out.size))
  clear B8
  clear hb
  obtain ⟨a0, a1, a2, a3⟩ := cells4 E9.out
  obtain ⟨f0, f1, f2, f3⟩ := cells4 F9.out
  obtain ⟨v0, v1, v2⟩ := cells3 V9.out
  obtain ⟨u0, u1, u2⟩ := cells3 U9.out
  have hzE := heap_lt E9.out
  have hzF := heap_lt F9.out
  have hzV := heap_lt V9.out
  have hzU := heap_lt U9.out
  go_wp2_with fail
  refine (less_1 _).mono ?_
  rintro e w10 ⟨rfl, hb⟩
  have E10 := Lib.hid (keep_block hb (heap_alloc_lt _ _ _ _ E9.out))
  clear E9
  have V10 := Lib.hid (keep_block hb (heap_alloc_lt _ _ _ _ V9.out))
  clear V9
  have F10 := Lib.hid (keep_block hb (heap_alloc_lt _ _ _ _ F9.out))
  clear F9
  have U10 := Lib.hid (keep_block hb (heap_alloc_lt _ _ _ _ U9.out))
  clear U9
  have B10 := Lib.hid ((B9.out.alloc B9.out.size _).trans (hb.mono (by have := B9.out.size; simp; omega)))
  clear B9
  clear hb
  clear a0 a1 a2 a3 f0 f1 f2 f3 v0 v1 v2 u0 u1 u2 hzE hzF hzV hzU
  obtain ⟨a0, a1, a2, a3⟩ := cells4 E10.out
  go_wp2_with fail
  refine (less_2 _).mono ?_
  rintro e w11 ⟨rfl, hb⟩
  have E11 := Lib.hid (keep_block hb (E10.out))
  clear E10
  have V11 := Lib.hid (keep_block hb (V10.out))
  clear V10
  have F11 := Lib.hid (keep_block hb (F10.out))
  clear F10
  have U11 := Lib.hid (keep_block hb (U10.out))
  clear U10
  have B11 := Lib.hid (B10.out.trans (hb.mono B10.out.size))
  clear B10
  clear hb
  clear a0 a1 a2 a3
  obtain ⟨a0, a1, a2, a3⟩ := cells4 E11.out
  go_wp2_with fail
  refine (sort_1 _ _ _ (heap_alloc_at _ _ _ rfl)).mono ?_
  rintro e w12 ⟨⟨g', c', rfl⟩, hb⟩
  have B12 := Lib.hid ((B11.out.alloc B11.out.size _).trans (hb.mono (by have := B11.out.size; simp; omega)))
  clear hb B11 E11 V11 F11 U11 a0 a1 a2 a3 q1 q2
  go_wp2
  go_ret
  exact ⟨rfl, B12.out⟩
end Go.Proofs.Ytepfgaiidmbklaa.Pk
