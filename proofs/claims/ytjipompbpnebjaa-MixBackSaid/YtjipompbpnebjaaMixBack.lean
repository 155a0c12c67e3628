/-
  Proved: whatever two numbers are handed in, MixBack returns true: what is mixed is unmixed again, and the other way round; two numbers have one mix just if they are one. No condition.
-/
import Derived.Test.YtjipompbpnebjaaMxLives
namespace Go.Proofs.Ytjipompbpnebjaa.mixBack
open Go.ChangeShapes Go.WideShapes Go.ChangeAt Go.RowKit Base Mx
set_option maxHeartbeats 1000000 in
theorem walk (x y : Nat) (hx : x < 18446744073709551616) (hy : y < 18446744073709551616) (w : World) :
    Calls Try.prog 4 #[.int .u64 (x : Int), .int .u64 (y : Int)] w (TruePost w) := by
  have H1 : Hid (∀ w, Calls Try.prog 9 #[.int .u64 (mixN x : Nat)] w fun e w' => e = .returned (.int .u64 (x : Int)) ∧ w = w') := Lib.hid fun w => by
    have h := unmixP_any (mixN x) w (mixN_lt x)
    rwa [unmix_mix hx] at h
  have H2 : Hid (∀ w, Calls Try.prog 7 #[.int .u64 (unmixN x : Nat)] w fun e w' => e = .returned (.int .u64 (x : Int)) ∧ w = w') := Lib.hid fun w => by
    have h := mixP_any (unmixN x) w (unmixN_lt x)
    rwa [mix_unmix hx] at h
  have M1 := Lib.hid (fun w => mixP_any x w hx)
  have M2 := Lib.hid (fun w => mixP_any y w hy)
  have U1 := Lib.hid (fun w => unmixP_any x w hx)
  have HI : Hid (mixN x = mixN y → x = y) := Lib.hid (mix_inj hx hy)
  have HJ : Hid (x = y → mixN x = mixN y) := Lib.hid (fun e => by rw [e])
  generalize mixN x = a at H1 M1 HI HJ
  generalize mixN y = b at M2 HI HJ
  generalize unmixN x = c at U1 H2
  go_enter Try.func4, Try.ntmps4
  go_wp2_with fail
  refine (lives_any _).mono ?_
  rintro e w1 ⟨rfl, hb⟩
  have HB := Lib.hid hb
  clear hb
  go_wp2_with fail
  refine (M1.out _).mono ?_
  rintro e w2 ⟨rfl, rfl⟩
  go_wp2_with fail
  refine (H1.out _).mono ?_
  rintro e w2 ⟨rfl, rfl⟩
  go_wp2_with fail
  refine (U1.out _).mono ?_
  rintro e w2 ⟨rfl, rfl⟩
  go_wp2_with fail
  refine (H2.out _).mono ?_
  rintro e w2 ⟨rfl, rfl⟩
  go_wp2_with fail
  refine (M1.out _).mono ?_
  rintro e w2 ⟨rfl, rfl⟩
  go_wp2_with fail
  refine (M2.out _).mono ?_
  rintro e w2 ⟨rfl, rfl⟩
  by_cases hxy : x = y
  · have hab := HJ.out hxy
    subst hxy hab
    go_wp2
    go_ret
    exact ⟨rfl, HB.out⟩
  · have h1 : ((a : Int) == (b : Int)) = false := by
      rw [beq_eq_false_iff_ne]; intro e; exact hxy (HI.out (by omega))
    have h2 : ((x : Int) == (y : Int)) = false := by
      rw [beq_eq_false_iff_ne]; intro e; exact hxy (by omega)
    clear hxy
    go_wp2
    go_ret
    exact ⟨rfl, HB.out⟩
theorem walk' (x y : Int) (hx : 0 ≤ x ∧ x ≤ 18446744073709551615) (hy : 0 ≤ y ∧ y ≤ 18446744073709551615) (w : World) :
    Calls Try.prog 4 #[.int .u64 x, .int .u64 y] w (TruePost w) := by
  obtain ⟨x, rfl⟩ := Int.eq_ofNat_of_zero_le hx.1
  obtain ⟨y, rfl⟩ := Int.eq_ofNat_of_zero_le hy.1
  exact walk x y (by omega) (by omega) w
theorem own : ownKnob Try.prog.godebug = none := by kernel_rfl
theorem laidOut : laidOutB Try.prog = true := by kernel_rfl
set_option maxRecDepth 100000 in
theorem lifted (os : Os) (started : os.Started) (H : Type) (enc : TypeId × Value → H) :
    ReturnsInHanded {} Try.checked os 4 .any (Rows.mixBackSpec.pre6 enc Try.prog Try.f4 Rows.mixBackRow.domain false) (Rows.mixBackSpec.post enc Try.prog Try.f4 false true false false) := by
  refine returnsInHanded_of_change (C := Try.checked) own started (by kernel_rfl) Try.func4
    (ChangeSpec.witness6 (enc := enc) (C := Try.checked) false ⟨#[], #[.int .u64 0, .int .u64 0], []⟩ 8 (by kernel_rfl) (by kernel_rfl) (by kernel_rfl) (by kernel_rfl)) ?_
  intro W base args ds gs before hval0 hW hcnd _
  have hval : ∀ (j : Nat) t v, Try.f4.params[j]? = some t → args[j]? = some v → Value.okWide Try.prog W .any base t v := hval0
  have hW' := hW
  obtain ⟨p, q, hA0, hV, rfl, hfz, hnd⟩ := hW
  have hA : DataW.TrodAll enc Try.prog W 0 (fun _ => true) true Try.f4.params.toList args.toList ds p := hA0
  rw [Try.params4] at hA hval
  obtain ⟨v0, vs0, d0, ds0, p0, q0, hargs, rfl, rfl, r0, r0'⟩ := trodAll_cons hA
  obtain ⟨v1, vs1, d1, ds1, p1, q1, rfl, rfl, rfl, r1, r1'⟩ := trodAll_cons r0'
  obtain ⟨rfl, rfl, rfl⟩ := trodAll_nil r1'
  obtain rfl : args = #[v0, v1] := by cases args; simp_all
  obtain ⟨rfl, rfl⟩ := trodVars_none hV
  have hlt : ∀ x ∈ p0 ++ (p1 ++ ([])), x.block < W.heap.size := fun x hx => by simpa using hW'.lt x (by simpa using hx)
  have back0 : ∀ W', Below W.heap.size W W' → DataW.Trod enc Try.prog W' 0 (fun b => decide (b < W.heap.size)) true 22 v0 d0 p0 :=
    fun W' hn => Below.trod laidOut (by kernel_rfl) (of_decide_eq_true (by kernel_rfl)) r0 hn fun x hx => hlt x (by simp [hx])
  have back1 : ∀ W', Below W.heap.size W W' → DataW.Trod enc Try.prog W' 0 (fun b => decide (b < W.heap.size)) true 22 v1 d1 p1 :=
    fun W' hn => Below.trod laidOut (by kernel_rfl) (of_decide_eq_true (by kernel_rfl)) r1 hn fun x hx => hlt x (by simp [hx])
  obtain ⟨x, rfl, _, _, wx⟩ := open_int Try.underlying22 (hval 0 22 v0 rfl rfl) r0
  have bx := bounds_u64 wx
  obtain ⟨y, rfl, _, _, wy⟩ := open_int Try.underlying22 (hval 1 22 v1 rfl rfl) r1
  have by_ := bounds_u64 wy
  clear hA0 hval0
  refine (walk' x y bx by_ W).mono fun e W' ⟨he, hb⟩ => ?_
  subst he
  exact ⟨_, rfl, _, _, _, [], _, [], hW', trodAll_cons_mk (shut_bool Try.underlying4 _) trodAll_mk0, trodAll_cons_mk (back0 W' hb) (trodAll_cons_mk (back1 W' hb) trodAll_mk0), rfl, hb.frame _, fun h => by cases h⟩
theorem over : Rows.mixBackRow.holds Try.pinned (OpenSpec.ofChange Rows.mixBackSpec) :=
  OpenClaim.holds_of_wide 4 Try.f4 rfl rfl rfl rfl rfl rfl rfl ⟨rfl, rfl, rfl, rfl, rfl⟩ rfl rfl rfl rfl rfl (by kernel_rfl) Try.func4 (by kernel_rfl)
    (of_decide_eq_true (by kernel_rfl)) (by unfold Func.isWrapper; rw [if_neg (by decide +kernel)]; exact ⟨rfl, rfl⟩)
    (fun os started H enc _ => lifted os started H enc)
theorem proved : Rows.MixBackSaid := over
#print axioms proved
end Go.Proofs.Ytjipompbpnebjaa.mixBack
