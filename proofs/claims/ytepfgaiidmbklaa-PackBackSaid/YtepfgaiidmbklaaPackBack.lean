/-
  Proved: whatever edges, version and number are handed in, PackBack returns true: what has a number is told again of it, and edges that have numbers stand in the order of these. No condition.
-/
import Derived.Test.YtepfgaiidmbklaaPkSome
import Derived.Test.YtepfgaiidmbklaaPkOpen
import Derived.Deep.DeepCutAuto
namespace Go.Proofs.Ytepfgaiidmbklaa.packBack
open Go.ChangeShapes Go.WideShapes Go.ChangeAt Go.RowKit Base Pk
/-- What holds between the statements: the three that came in lie in their boxes, and what was there is as it was. -/
def Inv (f t k y f' t' k' y' p q r : Int) (w wx : World) : Prop := Below w.heap.size w wx ∧ wx.heap[w.heap.size]? = some (.cells #[.int .i64 f, .int .i64 t, .int .i64 k, .int .i64 y] 23) ∧ wx.heap[w.heap.size + 1]? = some (.cells #[.int .i64 f', .int .i64 t', .int .i64 k', .int .i64 y'] 23) ∧ wx.heap[w.heap.size + 2]? = some (.cells #[.int .i64 p, .int .i64 q, .int .i64 r] 37)
theorem Inv.step {f t k y f' t' k' y' p q r : Int} {w wx w1 : World} (h : Inv f t k y f' t' k' y' p q r w wx) (hb : Below wx.heap.size wx w1) : Inv f t k y f' t' k' y' p q r w w1 :=
  ⟨h.1.trans (hb.mono h.1.size), keep_block hb h.2.1, keep_block hb h.2.2.1, keep_block hb h.2.2.2⟩
theorem Inv.alloc {f t k y f' t' k' y' p q r : Int} {w wx : World} (h : Inv f t k y f' t' k' y' p q r w wx) (o : Obj) : Inv f t k y f' t' k' y' p q r w (wx.alloc o) :=
  ⟨h.1.alloc h.1.size o, heap_alloc_lt _ _ _ _ h.2.1, heap_alloc_lt _ _ _ _ h.2.2.1, heap_alloc_lt _ _ _ _ h.2.2.2⟩
theorem Inv.start (f t k y f' t' k' y' p q r : Int) (w : World) : Inv f t k y f' t' k' y' p q r w (((w.alloc (.cells #[.int .i64 f, .int .i64 t, .int .i64 k, .int .i64 y] 23)).alloc (.cells #[.int .i64 f', .int .i64 t', .int .i64 k', .int .i64 y'] 23)).alloc (.cells #[.int .i64 p, .int .i64 q, .int .i64 r] 37)) :=
  ⟨(((Below.refl _ w).alloc (Nat.le_refl _) _).alloc (by simp) _).alloc (by simp; omega) _, heap_alloc_lt _ _ _ _ (heap_alloc_lt _ _ _ _ (heap_alloc_at _ _ _ rfl)), heap_alloc_lt _ _ _ _ (heap_alloc_at _ _ _ (by simp)), heap_alloc_at _ _ _ (by simp)⟩
set_option maxHeartbeats 4000000 in
set_option maxRecDepth 100000 in
theorem walk (f t k y f' t' k' y' p q r x : Int) (h0 : 0 ≤ x) (h1 : x ≤ 18446744073709551615) (w : World) :
    Calls Try.prog 6 #[.agg #[.int .i64 f, .int .i64 t, .int .i64 k, .int .i64 y], .agg #[.int .i64 f', .int .i64 t', .int .i64 k', .int .i64 y'], .agg #[.int .i64 p, .int .i64 q, .int .i64 r], .int .u64 x] w fun e w' => e = .returned (.bool true) ∧ Below w.heap.size w w' := by
  obtain ⟨NA, ea, ca, ha⟩ := edge_some f t k y
  obtain ⟨NB, eb, cb, hbb⟩ := edge_some f' t' k' y'
  obtain ⟨NV, ev, cv, hv⟩ := version_some p q r
  obtain ⟨f2, t2, k2, y2, e4, c4, h4⟩ := unedge_some x h0 h1
  obtain ⟨p2, q2, r2, e5, c5, h5⟩ := unversion_some x h0 h1
  have CA := Lib.hid ca
  have CB := Lib.hid cb
  have CV := Lib.hid cv
  have C4 := Lib.hid c4
  have C5 := Lib.hid c5
  have HA := Lib.hid ha
  have HB := Lib.hid hbb
  have HV := Lib.hid hv
  have H4 := Lib.hid h4
  have H5 := Lib.hid h5
  clear ca cb cv c4 c5 ha hbb hv h4 h5
  have I0 := Lib.hid (Inv.start f t k y f' t' k' y' p q r w)
  go_enter Try.func6, Try.ntmps6
  go_wp2_with fail
  refine (lives_any _).mono ?_
  rintro e w1 ⟨rfl, hb⟩
  have I1 := Lib.hid (I0.out.step hb)
  clear I0 hb
  obtain ⟨a0, a1, a2, a3⟩ := cells4 I1.out.2.1
  go_wp2_with fail
  refine (CA.out _).mono ?_
  rintro e w2 ⟨rfl, hb⟩
  have I2 := Lib.hid (I1.out.step hb)
  clear I1 hb a0 a1 a2 a3
  obtain ⟨b0, b1, b2, b3⟩ := cells4 I2.out.2.2.1
  go_wp2_with fail
  refine (CB.out _).mono ?_
  rintro e w3 ⟨rfl, hb⟩
  have I3 := Lib.hid (I2.out.step hb)
  clear I2 hb b0 b1 b2 b3
  go_upto_if 40 with fail
  go_cut [] (fun wx => Inv f t k y f' t' k' y' p q r w wx)
  case first =>
    have A3 := cells4 I3.out.2.1
    rcases HA.out with ⟨hR, hN, he⟩ | he
    · have hE : (ea == 0) = true := by rw [he]; rfl
      have HU : Hid (∀ w, Calls Try.prog 11 #[.int .u64 NA] w fun e w' => e = .returned (.tuple #[.agg #[.int .i64 f, .int .i64 t, .int .i64 k, .int .i64 y], .int .i64 0]) ∧ Below w.heap.size w w') := Lib.hid (by rw [hN]; exact unedge_of f t k y hR)
      have hq := neE (f, t, k, y) (f, t, k, y)
      rw [decide_eq_true rfl] at hq
      rcases HB.out with ⟨hR', hN', he'⟩ | he'
      · have hE' : (eb == 0) = true := by rw [he']; rfl
        have HL : Hid (∀ w, Calls Try.prog 22 #[.agg #[.int .i64 f, .int .i64 t, .int .i64 k, .int .i64 y], .agg #[.int .i64 f', .int .i64 t', .int .i64 k', .int .i64 y']] w fun e w' => e = .returned (.bool (decide (NA < NB))) ∧ Below w.heap.size w w') := Lib.hid (by rw [hN, hN']; exact less_num f t k y f' t' k' y' hR hR')
        have hq2 : ∀ w, (binOp .eql 23 (.agg #[.int .i64 f, .int .i64 t, .int .i64 k, .int .i64 y]) (.agg #[.int .i64 f', .int .i64 t', .int .i64 k', .int .i64 y'])).run Try.prog w = .ok (.bool (NA == NB)) w := by rw [hN, hN']; exact eq_num f t k y f' t' k' y' hR hR'
        clear hR hN he hR' hN' he' A3
        go_wp2_with fail
        refine (HU.out _).mono ?_
        rintro e w4 ⟨rfl, hb⟩
        have I4 := Lib.hid (I3.out.step hb)
        clear I3 hb
        obtain ⟨a0, a1, a2, a3⟩ := cells4 I4.out.2.1
        obtain ⟨b0, b1, b2, b3⟩ := cells4 I4.out.2.2.1
        have hz := heap_lt I4.out.2.1
        have hz' := heap_lt I4.out.2.2.1
        go_wp2_with fail
        refine (HL.out _).mono ?_
        rintro e w5 ⟨rfl, hb⟩
        have I5 := Lib.hid ((I4.out.alloc _).step hb)
        clear I4 hb a0 a1 a2 a3 b0 b1 b2 b3 hz hz'
        obtain ⟨a0, a1, a2, a3⟩ := cells4 I5.out.2.1
        obtain ⟨b0, b1, b2, b3⟩ := cells4 I5.out.2.2.1
        go_wp2_with fail
        go_meet
        exact I5.out
      · have hE' : (eb == 0) = false := by rw [he']; rfl
        clear hR hN he he' A3
        go_wp2_with fail
        refine (HU.out _).mono ?_
        rintro e w4 ⟨rfl, hb⟩
        have I4 := Lib.hid (I3.out.step hb)
        clear I3 hb
        obtain ⟨a0, a1, a2, a3⟩ := cells4 I4.out.2.1
        have hz := heap_lt I4.out.2.1
        go_wp2_with fail
        go_meet
        exact I4.out.alloc _
    · have hE : (ea == 0) = false := by rw [he]; rfl
      clear he A3
      go_wp2_with fail
      go_meet
      exact I3.out
  case rest =>
    have J0 := Lib.hid hcut
    clear hcut I3
    obtain ⟨v0, v1, v2⟩ := cells3 J0.out.2.2.2
    go_wp2_with fail
    refine (CV.out _).mono ?_
    rintro e w4 ⟨rfl, hb⟩
    have J1 := Lib.hid (J0.out.step hb)
    clear J0 hb v0 v1 v2
    go_upto_if 81 with fail
    go_cut [] (fun wx => Inv f t k y f' t' k' y' p q r w wx)
    case first =>
      rcases HV.out with ⟨hR, hN, he⟩ | he
      · have hE : (ev == 0) = true := by rw [he]; rfl
        have HU : Hid (∀ w, Calls Try.prog 17 #[.int .u64 NV] w fun e w' => e = .returned (.tuple #[.agg #[.int .i64 p, .int .i64 q, .int .i64 r], .int .i64 0]) ∧ Below w.heap.size w w') := Lib.hid (by rw [hN]; exact unversion_of p q r hR)
        have hq := neV p q r
        clear hR hN he
        go_wp2_with fail
        refine (HU.out _).mono ?_
        rintro e w5 ⟨rfl, hb⟩
        have J2 := Lib.hid (J1.out.step hb)
        clear J1 hb
        obtain ⟨v0, v1, v2⟩ := cells3 J2.out.2.2.2
        have hz := heap_lt J2.out.2.2.2
        go_wp2_with fail
        go_meet
        exact J2.out.alloc _
      · have hE : (ev == 0) = false := by rw [he]; rfl
        clear he
        go_wp2_with fail
        go_meet
        exact J1.out
    case rest =>
      have K0 := Lib.hid hcut
      clear hcut J1
      go_wp2_with fail
      refine (C4.out _).mono ?_
      rintro e w5 ⟨rfl, hb⟩
      have K1 := Lib.hid (K0.out.step hb)
      clear K0 hb
      go_upto_if 100 with fail
      go_cut [] (fun wx => Inv f t k y f' t' k' y' p q r w wx)
      case first =>
        rcases H4.out with ⟨hR, hN, he⟩ | he
        · have hE : (e4 == 0) = true := by rw [he]; rfl
          have HU : Hid (∀ w, Calls Try.prog 8 #[.agg #[.int .i64 f2, .int .i64 t2, .int .i64 k2, .int .i64 y2]] w fun e w' => e = .returned (.tuple #[.int .u64 x, .int .i64 0]) ∧ Below w.heap.size w w') := Lib.hid (by intro w; have := edge_ok f2 t2 k2 y2 w hR; rwa [hN] at this)
          clear hR hN he
          go_wp2_with fail
          refine (HU.out _).mono ?_
          rintro e w6 ⟨rfl, hb⟩
          have K2 := Lib.hid ((K1.out.alloc _).step hb)
          clear K1 hb
          go_wp2_with fail
          go_meet
          exact K2.out
        · have hE : (e4 == 0) = false := by rw [he]; rfl
          clear he
          go_wp2_with fail
          go_meet
          exact K1.out.alloc _
      case rest =>
        have L0 := Lib.hid hcut
        clear hcut K1
        go_wp2_with fail
        refine (C5.out _).mono ?_
        rintro e w6 ⟨rfl, hb⟩
        have L1 := Lib.hid (L0.out.step hb)
        clear L0 hb
        rcases H5.out with ⟨hR, hN, he⟩ | he
        · have hE : (e5 != 0) = false := by rw [he]; rfl
          have HU : Hid (∀ w, Calls Try.prog 14 #[.agg #[.int .i64 p2, .int .i64 q2, .int .i64 r2]] w fun e w' => e = .returned (.tuple #[.int .u64 x, .int .i64 0]) ∧ Below w.heap.size w w') := Lib.hid (by intro w; have := version_ok p2 q2 r2 w hR; rwa [hN] at this)
          clear hR hN he
          go_wp2_with fail
          refine (HU.out _).mono ?_
          rintro e w7 ⟨rfl, hb⟩
          have L2 := Lib.hid ((L1.out.alloc _).step hb)
          clear L1 hb
          go_wp2
          go_ret
          exact ⟨rfl, L2.out.1⟩
        · have hE : (e5 != 0) = true := by rw [he]; rfl
          clear he
          go_wp2
          go_ret
          exact ⟨rfl, (L1.out.alloc _).1⟩
set_option maxRecDepth 100000 in
theorem lifted (os : Os) (started : os.Started) (H : Type) (enc : TypeId × Value → H) :
    ReturnsInHanded {} Try.checked os 6 .any (Rows.packBackSpec.pre6 enc Try.prog Try.f6 Rows.packBackRow.domain false) (Rows.packBackSpec.post enc Try.prog Try.f6 false true false false) := by
  refine returnsInHanded_of_change (C := Try.checked) own started (by kernel_rfl) Try.func6
    (ChangeSpec.witness6 (enc := enc) (C := Try.checked) false ⟨#[], #[.agg #[.int .i64 0, .int .i64 0, .int .i64 0, .int .i64 0], .agg #[.int .i64 0, .int .i64 0, .int .i64 0, .int .i64 0], .agg #[.int .i64 0, .int .i64 0, .int .i64 0], .int .u64 0], []⟩ 8 (by kernel_rfl) (by kernel_rfl) (by kernel_rfl) (by kernel_rfl)) ?_
  intro W base args ds gs before hval0 hW hcnd _
  have hval : ∀ (j : Nat) t v, Try.f6.params[j]? = some t → args[j]? = some v → Value.okWide Try.prog W .any base t v := hval0
  have hW' := hW
  obtain ⟨p, q, hA0, hV, rfl, hfz, hnd⟩ := hW
  have hA : DataW.TrodAll enc Try.prog W 0 (fun _ => true) true Try.f6.params.toList args.toList ds p := hA0
  rw [Try.params6] at hA hval
  obtain ⟨v0, vs0, d0, ds0, p0, q0, hargs, rfl, rfl, r0, r0'⟩ := trodAll_cons hA
  obtain ⟨v1, vs1, d1, ds1, p1, q1, rfl, rfl, rfl, r1, r1'⟩ := trodAll_cons r0'
  obtain ⟨v2, vs2, d2, ds2, p2, q2, rfl, rfl, rfl, r2, r2'⟩ := trodAll_cons r1'
  obtain ⟨v3, vs3, d3, ds3, p3, q3, rfl, rfl, rfl, r3, r3'⟩ := trodAll_cons r2'
  obtain ⟨rfl, rfl, rfl⟩ := trodAll_nil r3'
  obtain rfl : args = #[v0, v1, v2, v3] := by cases args; simp_all
  obtain ⟨rfl, rfl⟩ := trodVars_none hV
  obtain ⟨f, t, k, y, rfl, rfl, rfl, w0, w1, w2, w3⟩ := open_edge (hval 0 23 v0 rfl rfl) r0
  obtain ⟨f', t', k', y', rfl, rfl, rfl, w0', w1', w2', w3'⟩ := open_edge (hval 1 23 v1 rfl rfl) r1
  obtain ⟨a, b, c, rfl, rfl, rfl, z0, z1, z2⟩ := open_version (hval 2 37 v2 rfl rfl) r2
  obtain ⟨x, rfl, rfl, rfl, w4⟩ := open_int Try.underlying24 (hval 3 24 v3 rfl rfl) r3
  clear hA0 hval0
  simp only [List.append_nil] at hW'
  have hx : 0 ≤ x ∧ x ≤ 18446744073709551615 := bounds_u64 w4
  refine (walk f t k y f' t' k' y' a b c x hx.1 hx.2 W).mono fun e W' ⟨he, hb⟩ => ?_
  subst he
  exact ⟨_, rfl, _, _, _, [], [], [], hW', trodAll_cons_mk (shut_bool Try.underlying4 _) trodAll_mk0, trodAll_cons_mk (shut_edge w0 w1 w2 w3) (trodAll_cons_mk (shut_edge w0' w1' w2' w3') (trodAll_cons_mk (shut_version z0 z1 z2) (trodAll_cons_mk (shut_int Try.underlying24 w4) trodAll_mk0))), rfl, hb.frame _, fun h => by cases h⟩
theorem over : Rows.packBackRow.holds Try.pinned (OpenSpec.ofChange Rows.packBackSpec) :=
  OpenClaim.holds_of_wide 6 Try.f6 rfl rfl rfl rfl rfl rfl rfl ⟨rfl, rfl, rfl, rfl, rfl⟩ rfl rfl rfl rfl rfl (by kernel_rfl) Try.func6 (by kernel_rfl)
    (of_decide_eq_true (by kernel_rfl)) (by unfold Func.isWrapper; rw [if_neg (by decide +kernel)]; exact ⟨rfl, rfl⟩)
    (fun os started H enc _ => lifted os started H enc)
theorem proved : Rows.PackBackSaid := over
#print axioms proved
end Go.Proofs.Ytepfgaiidmbklaa.packBack
