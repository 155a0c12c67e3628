/-
  Proved: TopNames returns true: the errors, the limits, the kinds and the phenomena that are given have the numbers that the document names. It takes no input.
-/
import Derived.Test.YtepfgaiidmbklaaRow2
import Derived.Test.YtepfgaiidmbklaaRow3
import Derived.Test.YtepfgaiidmbklaaRows
namespace Go.Proofs.Ytepfgaiidmbklaa.topNames
open Go.ChangeShapes Go.WideShapes Go.ChangeAt Go.RowKit Base Bits
theorem own : ownKnob Try.prog.godebug = none := by kernel_rfl
/-- The row with place 69 alone. -/
def V69 : Nat := 2 ^ 69
theorem of_1 (g c : Nat) (w : World) (h : w.heap[g]? = some (.cells #[.int .i64 69] 3)) : Calls Try.prog 24 #[.int .i64 70, .slice (some ⟨g, 0, none⟩) 1 c] w fun e w' => e = .returned (.pointer (some ⟨w.heap.size + 1, 0, none⟩)) ∧ RowAt w' (w.heap.size + 1) w.heap.size 70 V69 ∧ Below w.heap.size w w' := by
  have hh := of_any 70 g 0 c [69] w (by
    intro k hk
    have : k = 0 := by simp at hk; omega
    subst this
    simp [World.cell?, h]) (by decide) (heap_lt h)
  have e1 : rowLen 70 = 70 := by decide
  have e2 : ofV 70 [69] = V69 := by decide
  rw [e1, e2] at hh
  exact hh
theorem pc_1 : pc 70 V69 = 1 := by unfold pc; decide +kernel
set_option maxHeartbeats 1000000 in
theorem walk (w : World) : Calls Try.prog 7 #[] w fun e w' => e = .returned (.bool true) ∧ Below w.heap.size w w' := by
  go_enter Try.func7, Try.ntmps7
  go_wp2_with fail
  refine wp_loop_rounds 19 ?_
  repeat any_goals (rw [rounds_succ]; go_wp2_with fail)
  refine wp_loop_rounds 25 ?_
  repeat any_goals (rw [rounds_succ]; go_wp2_with fail)
  refine (of_1 _ _ _ (heap_alloc_at _ _ _ (by simp))).mono ?_
  rintro e w1 ⟨rfl, hr, hb⟩
  simp only [World.size_alloc] at hr
  have HB := Lib.hid hb
  have H1 : Hid (∀ b g, RowAt w1 b g 70 V69 → Calls Try.prog 25 #[.pointer (some ⟨b, 0, none⟩), .int .i64 69] w1 fun e w' => e = .returned (.bool true) ∧ w1 = w') := Lib.hid fun b g h => by
    have := has_any b g 70 V69 69 w1 h
    rwa [show hasI 70 V69 69 = true from by decide] at this
  have H2 : Hid (∀ b g, RowAt w1 b g 70 V69 → Calls Try.prog 25 #[.pointer (some ⟨b, 0, none⟩), .int .i64 68] w1 fun e w' => e = .returned (.bool false) ∧ w1 = w') := Lib.hid fun b g h => by
    have := has_any b g 70 V69 68 w1 h
    rwa [show hasI 70 V69 68 = false from by decide] at this
  have H3 : Hid (∀ b g, RowAt w1 b g 70 V69 → Calls Try.prog 26 #[.pointer (some ⟨b, 0, none⟩)] w1 fun e w' => e = .returned (.int .i64 1) ∧ w1 = w') := Lib.hid fun b g h => by
    have := count_any b g 70 V69 w1 h
    rwa [pc_1] at this
  have HR := Lib.hid hr
  clear hr hb
  go_wp2_with fail
  refine (H1.out _ _ HR.out).mono ?_
  rintro e wx ⟨rfl, rfl⟩
  go_wp2_with fail
  refine (H2.out _ _ HR.out).mono ?_
  rintro e wx ⟨rfl, rfl⟩
  go_wp2_with fail
  refine (H3.out _ _ HR.out).mono ?_
  rintro e wx ⟨rfl, rfl⟩
  go_wp2
  go_ret
  exact ⟨rfl, by have := HB.out; exact ((((Below.refl _ _).alloc (Nat.le_refl _) _).alloc (by simp) _).alloc (by simp; omega) _).alloc (by simp; omega) _ |>.trans (this.mono (by simp; omega))⟩
set_option maxRecDepth 100000 in
theorem lifted (os : Os) (started : os.Started) (H : Type) (enc : TypeId × Value → H) :
    ReturnsInHanded {} Try.checked os 7 .any (Rows.topNamesSpec.pre6 enc Try.prog Try.f7 Rows.topNamesRow.domain false) (Rows.topNamesSpec.post enc Try.prog Try.f7 false true false false) := by
  refine returnsInHanded_of_change (C := Try.checked) own started (by kernel_rfl) Try.func7
    (ChangeSpec.witness6 (enc := enc) (C := Try.checked) false ⟨#[], #[], []⟩ 8 (by kernel_rfl) (by kernel_rfl) (by kernel_rfl) (by kernel_rfl)) ?_
  intro W base args ds gs before hval0 hW hcnd _
  have hval : ∀ (j : Nat) t v, Try.f7.params[j]? = some t → args[j]? = some v → Value.okWide Try.prog W .any base t v := hval0
  have hW' := hW
  obtain ⟨p, q, hA0, hV, rfl, hfz, hnd⟩ := hW
  have hA : DataW.TrodAll enc Try.prog W 0 (fun _ => true) true Try.f7.params.toList args.toList ds p := hA0
  rw [Try.params7] at hA hval
  obtain ⟨rfl, rfl, rfl⟩ := trodAll_none hA
  obtain ⟨rfl, rfl⟩ := trodVars_none hV
  clear hA0 hval0
  simp only [List.append_nil] at hW'
  refine (walk W).mono fun e W' ⟨he, hb⟩ => ?_
  subst he
  exact ⟨_, rfl, _, _, _, [], [], [], hW', trodAll_cons_mk (shut_bool Try.underlying4 _) trodAll_mk0, rfl, rfl, hb.frame _, fun h => by cases h⟩

theorem over : Rows.topNamesRow.holds Try.pinned (OpenSpec.ofChange Rows.topNamesSpec) :=
  OpenClaim.holds_of_wide 7 Try.f7 rfl rfl rfl rfl rfl rfl rfl ⟨rfl, rfl, rfl, rfl, rfl⟩ rfl rfl rfl rfl rfl (by kernel_rfl) Try.func7 (by kernel_rfl)
    (of_decide_eq_true (by kernel_rfl)) (by unfold Func.isWrapper; first | (rw [if_pos (by decide +kernel)]; kernel_rfl) | (rw [if_neg (by decide +kernel)]; exact ⟨rfl, rfl⟩))
    (fun os started H enc _ => lifted os started H enc)

theorem proved : Rows.TopNamesSaid :=
  over
#print axioms proved
end Go.Proofs.Ytepfgaiidmbklaa.topNames
