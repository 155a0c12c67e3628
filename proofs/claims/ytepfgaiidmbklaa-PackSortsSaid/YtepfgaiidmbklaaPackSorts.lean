/-
  Proved: whatever edges are handed in, PackSorts returns true, and the edges read as they did. No condition.
-/
import Derived.Test.YtepfgaiidmbklaaPkSame
import Derived.Test.YtepfgaiidmbklaaPkLives
import Derived.Test.YtepfgaiidmbklaaPkOpen
import Derived.Test.YtepfgaiidmbklaaPkStructs
import Derived.Deep.RegionHeld3
import Derived.Deep.Slices
import Derived.Deep.Fields
import Derived.ChangeSame
import Derived.OpenShut
namespace Go.Proofs.Ytepfgaiidmbklaa.packSorts
open Go.ChangeShapes Go.WideShapes Go.ChangeAt Go.RowKit Base Pk
/-- What holds on the way: two edges lie in their boxes, the list reads, and what was there is as it was. -/
def PB (w w' : World) (a b : E) (v : Value) (xs : List E) : Prop := Below w.heap.size w w' ∧ w'.heap[w.heap.size]? = some (boxE a) ∧ w'.heap[w.heap.size + 1]? = some (boxE b) ∧ Eds w' v xs
theorem PB.step {w w1 w2 : World} {a b : E} {v : Value} {xs : List E} (h : PB w w1 a b v xs) (hb : Below w1.heap.size w1 w2) : PB w w2 a b v xs :=
  ⟨h.1.trans (hb.mono h.1.size), keep_block hb h.2.1, keep_block hb h.2.2.1, h.2.2.2.below hb⟩
theorem PB.start {w : World} {a b : E} {v : Value} {xs : List E} (h : Eds w v xs) : PB w ((w.alloc (boxE a)).alloc (boxE b)) a b v xs := by
  have hb := ((Below.refl _ w).alloc (Nat.le_refl _) (boxE a)).alloc (by simp) (boxE b)
  exact ⟨hb, heap_alloc_lt _ _ _ _ (heap_alloc_at _ _ _ rfl), heap_alloc_at _ _ _ (by simp), h.below hb⟩
theorem pb_mk {w w' : World} {a b : E} {v : Value} {xs : List E} (h : PB w w' a b v xs) : (w'.cell? ⟨w.heap.size, 0, none⟩ = some (.int .i64 a.1) ∧ w'.cell? ⟨w.heap.size, 1, none⟩ = some (.int .i64 a.2.1) ∧ w'.cell? ⟨w.heap.size, 2, none⟩ = some (.int .i64 a.2.2.1) ∧ w'.cell? ⟨w.heap.size, 3, none⟩ = some (.int .i64 a.2.2.2)) ∧ (w'.cell? ⟨w.heap.size + 1, 0, none⟩ = some (.int .i64 b.1) ∧ w'.cell? ⟨w.heap.size + 1, 1, none⟩ = some (.int .i64 b.2.1) ∧ w'.cell? ⟨w.heap.size + 1, 2, none⟩ = some (.int .i64 b.2.2.1) ∧ w'.cell? ⟨w.heap.size + 1, 3, none⟩ = some (.int .i64 b.2.2.2)) ∧ Hid (PB w w' a b v xs) := ⟨cells4 h.2.1, cells4 h.2.2.1, Lib.hid h⟩
theorem PB.eds {w w1 : World} {a b : E} {v : Value} {xs : List E} (h : PB w w1 a b v xs) : Eds w1 v xs := h.2.2.2
theorem pb_of {A B C : Prop} (h : A ∧ B ∧ Hid C) : C := h.2.2.out
theorem sameE_yes {v u : Value} {xs : List E} {w : World} (hx : Eds w v xs) (hy : Eds w u xs) : Calls Try.prog 19 #[v, u] w fun e w' => e = .returned (.bool true) ∧ Below w.heap.size w w' :=
  (sameE_any w hx hy).mono fun _ _ ⟨he, q, hq⟩ => ⟨by rw [he, decide_eq_true rfl], by rw [hq]; exact below_drewN (Below.refl _ _) q⟩
theorem less_pk (x y : E) (w : World) : Calls Try.prog 22 #[.agg #[.int .i64 x.1, .int .i64 x.2.1, .int .i64 x.2.2.1, .int .i64 x.2.2.2], .agg #[.int .i64 y.1, .int .i64 y.2.1, .int .i64 y.2.2.1, .int .i64 y.2.2.2]] w fun e w' => e = .returned (.bool (ltE x y)) ∧ Below w.heap.size w w' := (less_any x y w).mono fun _ _ h => ⟨h.1, h.2.below⟩
set_option maxHeartbeats 4000000 in
set_option maxRecDepth 100000 in
theorem walk (a b : E) (v : Value) (xs : List E) (w : World) (hx : Eds w v xs) :
    Calls Try.prog 5 #[v, .agg #[.int .i64 a.1, .int .i64 a.2.1, .int .i64 a.2.2.1, .int .i64 a.2.2.2], .agg #[.int .i64 b.1, .int .i64 b.2.1, .int .i64 b.2.2.1, .int .i64 b.2.2.2]] w fun e w' => e = .returned (.bool true) ∧ Below w.heap.size w w' := by
  have P0 := Lib.hid (PB.start (a := a) (b := b) hx)
  have hv : ∃ p c, v = .slice p xs.length c := by obtain ⟨p, c, hv, _⟩ := hx.open_; exact ⟨p, c, hv⟩
  by_cases h1 : 100 < xs.length
  · obtain ⟨p, c, rfl⟩ := hv
    clear hx
    go_enter Try.func5, Try.ntmps5
    go_wp2_with fail
    refine (lives_any _).mono ?_
    rintro e w1 ⟨rfl, hb⟩
    have P1 := Lib.hid (P0.out.step hb)
    clear P0 hb
    go_wp2
    go_ret
    exact ⟨rfl, P1.out.1⟩
  · have h2 : xs.length ≤ 100 := by omega
    have h3 : xs.length ≤ 1000000 := by omega
    have h4 : xs.length ≤ 100000 := by omega
    have HL := Lib.hid (less_ref a b)
    have HK := Lib.hid (less_pk a b)
    generalize ltE a b = r at HL HK
    have HV := Lib.hid hv
    clear hx h1 hv
    obtain ⟨p, c, hv⟩ := HV.out
    subst hv
    clear HV
    go_enter Try.func5, Try.ntmps5
    go_wp2_with fail
    go_region_held3 (fun w' => (w'.cell? ⟨w.heap.size, 0, none⟩ = some (.int .i64 a.1) ∧ w'.cell? ⟨w.heap.size, 1, none⟩ = some (.int .i64 a.2.1) ∧ w'.cell? ⟨w.heap.size, 2, none⟩ = some (.int .i64 a.2.2.1) ∧ w'.cell? ⟨w.heap.size, 3, none⟩ = some (.int .i64 a.2.2.2)) ∧ (w'.cell? ⟨w.heap.size + 1, 0, none⟩ = some (.int .i64 b.1) ∧ w'.cell? ⟨w.heap.size + 1, 1, none⟩ = some (.int .i64 b.2.1) ∧ w'.cell? ⟨w.heap.size + 1, 2, none⟩ = some (.int .i64 b.2.2.1) ∧ w'.cell? ⟨w.heap.size + 1, 3, none⟩ = some (.int .i64 b.2.2.2)) ∧ Hid (PB w w' a b (.slice p xs.length c) xs))
      (first | assumption | exact pb_mk (P0.out.step (Below.refl _ _).drew) | exact pb_mk ((pb_of (C := PB w _ a b (.slice p xs.length c) xs) (by assumption)).step (by assumption)))
      ((first
        | (go_at_call 20; ((with_reducible refine (sortE_any _ (pb_of (C := PB w _ a b (.slice p xs.length c) xs) (by assumption)).eds h3).mono ?_); rintro e w1 ⟨⟨v1, rfl, hv1⟩, hb1⟩))
        | (go_at_call 21; ((with_reducible refine (sortRef_any _ (pb_of (C := PB w _ a b (.slice p xs.length c) xs) (by assumption)).eds h4).mono ?_); rintro e w2 ⟨⟨v2, rfl, hv2⟩, hb2⟩; have hv3 := hv1.below hb2))
        | (go_at_call 19; ((with_reducible refine (sameE_yes hv3 hv2).mono ?_); rintro e w3 ⟨rfl, hb3⟩; clear hv1 hv2 hv3))
        | (go_at_call 22; ((with_reducible refine (HK.out _).mono ?_); rintro e w4 ⟨rfl, hb4⟩))
        | (go_at_call 23; ((with_reducible refine (HL.out _).mono ?_); rintro e w5 ⟨rfl, hb5⟩))
        | (go_at_call 13; ((with_reducible refine (lives_any _).mono ?_); rintro e w6 ⟨rfl, hb6⟩))))
    go_wp2
    go_ret
    exact ⟨rfl, (pb_of (C := PB w _ a b (.slice p xs.length c) xs) (by assumption)).1⟩
theorem laidOut : laidOutB Try.prog = true := by kernel_rfl
set_option maxRecDepth 100000 in
theorem lifted (os : Os) (started : os.Started) (H : Type) (enc : TypeId × Value → H) :
    ReturnsInHanded {} Try.checked os 5 .any (Rows.packSortsSpec.pre6 enc Try.prog Try.f5 Rows.packSortsRow.domain false) (Rows.packSortsSpec.post enc Try.prog Try.f5 false true false false) := by
  refine returnsInHanded_of_change (C := Try.checked) own started (by kernel_rfl) Try.func5
    (ChangeSpec.witness6 (enc := enc) (C := Try.checked) false ⟨#[], #[.slice none 0 0, .agg #[.int .i64 0, .int .i64 0, .int .i64 0, .int .i64 0], .agg #[.int .i64 0, .int .i64 0, .int .i64 0, .int .i64 0]], []⟩ 8 (by kernel_rfl) (by kernel_rfl) (by kernel_rfl) (by kernel_rfl)) ?_
  intro W base args ds gs before hval0 hW hcnd _
  have hval : ∀ (j : Nat) t v, Try.f5.params[j]? = some t → args[j]? = some v → Value.okWide Try.prog W .any base t v := hval0
  have hW' := hW
  obtain ⟨p, q, hA0, hV, rfl, hfz, hnd⟩ := hW
  have hA : DataW.TrodAll enc Try.prog W 0 (fun _ => true) true Try.f5.params.toList args.toList ds p := hA0
  rw [Try.params5] at hA hval
  obtain ⟨v0, vs0, d0, ds0, p0, q0, hargs, rfl, rfl, r0, r0'⟩ := trodAll_cons hA
  obtain ⟨v1, vs1, d1, ds1, p1, q1, rfl, rfl, rfl, r1, r1'⟩ := trodAll_cons r0'
  obtain ⟨v2, vs2, d2, ds2, p2, q2, rfl, rfl, rfl, r2, r2'⟩ := trodAll_cons r1'
  obtain ⟨rfl, rfl, rfl⟩ := trodAll_nil r2'
  obtain rfl : args = #[v0, v1, v2] := by cases args; simp_all
  obtain ⟨rfl, rfl⟩ := trodVars_none hV
  have hlt : ∀ x ∈ p0 ++ (p1 ++ (p2 ++ [])), x.block < W.heap.size := fun x hx => by simpa using hW'.lt x (by simpa using hx)
  have back0 : ∀ W', Below W.heap.size W W' → DataW.Trod enc Try.prog W' 0 (fun b => decide (b < W.heap.size)) true 46 v0 d0 p0 :=
    fun W' hn => Below.trod laidOut (by kernel_rfl) (of_decide_eq_true (by kernel_rfl)) r0 hn fun x hx => hlt x (by simp [hx])
  obtain ⟨xs, hxs⟩ := open_edges (hval 0 46 v0 rfl rfl) r0
  obtain ⟨f, t, k, y, rfl, rfl, rfl, w0, w1, w2, w3⟩ := open_edge (hval 1 23 v1 rfl rfl) r1
  obtain ⟨f', t', k', y', rfl, rfl, rfl, w0', w1', w2', w3'⟩ := open_edge (hval 2 23 v2 rfl rfl) r2
  clear hA0 hval0
  refine (walk (f, t, k, y) (f', t', k', y') v0 xs W hxs).mono fun e W' ⟨he, hb⟩ => ?_
  subst he
  exact ⟨_, rfl, _, _, _, [], _, [], hW', trodAll_cons_mk (shut_bool Try.underlying4 _) trodAll_mk0, trodAll_cons_mk (back0 W' hb) (trodAll_cons_mk (shut_edge w0 w1 w2 w3) (trodAll_cons_mk (shut_edge w0' w1' w2' w3') trodAll_mk0)), rfl, hb.frame _, fun h => by cases h⟩
theorem over : Rows.packSortsRow.holds Try.pinned (OpenSpec.ofChange Rows.packSortsSpec) :=
  OpenClaim.holds_of_wide 5 Try.f5 rfl rfl rfl rfl rfl rfl rfl ⟨rfl, rfl, rfl, rfl, rfl⟩ rfl rfl rfl rfl rfl (by kernel_rfl) Try.func5 (by kernel_rfl)
    (of_decide_eq_true (by kernel_rfl)) (by unfold Func.isWrapper; rw [if_neg (by decide +kernel)]; exact ⟨rfl, rfl⟩)
    (fun os started H enc _ => lifted os started H enc)
theorem proved : Rows.PackSortsSaid := over
#print axioms proved
end Go.Proofs.Ytepfgaiidmbklaa.packSorts
