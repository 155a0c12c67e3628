/-
  Proved: whatever number, list of numbers and text are handed in, MixMixes returns true: the mixes are what the document says. No condition.
-/
import Derived.Test.YtjipompbpnebjaaMxLives
import Derived.ChangeMaps5
namespace Go.Proofs.Ytjipompbpnebjaa.mixMixes
open Go.ChangeShapes Go.WideShapes Go.ChangeAt Go.RowKit Base Mx Lst
set_option maxHeartbeats 2000000 in
theorem walk (x : Nat) (v : Value) (l : List Int) (s : ByteArray) (hx : x < 18446744073709551616) (w : World) (hl : Ints 0 w v l) (hs : s.size ≤ 9223372036854775807) :
    Calls Try.prog 3 #[.int .u64 (x : Int), v, .string s] w (TruePost w) := by
  obtain ⟨p, c, rfl, hll, _⟩ := hl.open_
  have HI := Lib.hid hl
  clear hl
  by_cases h1 : 200 < l.length
  · clear HI
    go_enter Try.func3, Try.ntmps3
    go_wp2_with fail
    refine (lives_any _).mono ?_
    rintro e w1 ⟨rfl, hb⟩
    go_wp2
    go_ret
    exact ⟨rfl, hb⟩
  by_cases h2 : 200 < s.size
  · clear HI
    go_enter Try.func3, Try.ntmps3
    go_wp2_with fail
    refine (lives_any _).mono ?_
    rintro e w1 ⟨rfl, hb⟩
    go_wp2
    go_ret
    exact ⟨rfl, hb⟩
  have h3 : l.length ≤ 200 := by omega
  have h4 : s.size ≤ 200 := by omega
  clear h1 h2
  have HR : Hid (∀ w, Calls Try.prog 8 #[.int .u64 (unmixN x : Nat)] w fun e w' => e = .returned (.int .u64 (x : Int)) ∧ w = w') := Lib.hid fun w => by
    have h := mixR_any (unmixN x) w (unmixN_lt x)
    rwa [mix_unmix hx] at h
  have M1 := Lib.hid (fun w => mixP_any x w hx)
  have M2 := Lib.hid (fun w => mixR_any x w hx)
  have U1 := Lib.hid (fun w => unmixP_any x w hx)
  generalize mixN x = a at M1 M2
  generalize unmixN x = b at U1 HR
  go_enter Try.func3, Try.ntmps3
  go_wp2_with fail
  refine (M1.out _).mono ?_
  rintro e wx ⟨rfl, rfl⟩
  go_wp2_with fail
  refine (M2.out _).mono ?_
  rintro e wx ⟨rfl, rfl⟩
  go_wp2_with fail
  refine (U1.out _).mono ?_
  rintro e wx ⟨rfl, rfl⟩
  go_wp2_with fail
  refine (HR.out _).mono ?_
  rintro e wx ⟨rfl, rfl⟩
  have HP := Lib.hid (intsP_any w HI.out (by omega))
  go_wp2_with fail
  refine (HP.out).mono ?_
  rintro e w1 ⟨rfl, hb⟩
  have HB := Lib.hid hb
  have HQ := Lib.hid (intsR_any w1 (HI.out.below hb))
  clear hb HP
  go_wp2_with fail
  refine (HQ.out).mono ?_
  rintro e wx ⟨rfl, rfl⟩
  clear HQ HI
  have HP := Lib.hid (fun w => textP_any s w (by omega))
  have HQ := Lib.hid (fun w => textR_any s w (by omega))
  generalize intsN (bytesL s.data.toList) = r at HP HQ
  go_wp2_with fail
  refine (HP.out _).mono ?_
  rintro e w2 ⟨rfl, hb⟩
  have HB2 := Lib.hid (HB.out.trans (hb.mono HB.out.size))
  clear hb HB
  go_wp2_with fail
  refine (HQ.out _).mono ?_
  rintro e w3 ⟨rfl, hb⟩
  have HB := Lib.hid (HB2.out.trans (hb.mono HB2.out.size))
  clear hb HB2
  go_wp2_with fail
  refine (lives_any _).mono ?_
  rintro e w4 ⟨rfl, hb⟩
  go_wp2
  go_ret
  exact ⟨rfl, HB.out.trans (hb.mono HB.out.size)⟩
theorem walk' (x : Int) (v : Value) (l : List Int) (s : ByteArray) (hx : 0 ≤ x ∧ x ≤ 18446744073709551615) (w : World) (hl : Ints 0 w v l) (hs : s.size ≤ 9223372036854775807) :
    Calls Try.prog 3 #[.int .u64 x, v, .string s] w (TruePost w) := by
  obtain ⟨x, rfl⟩ := Int.eq_ofNat_of_zero_le hx.1
  exact walk x v l s (by omega) w hl hs
theorem own : ownKnob Try.prog.godebug = none := by kernel_rfl
theorem laidOut : laidOutB Try.prog = true := by kernel_rfl
set_option maxRecDepth 100000 in
theorem lifted (os : Os) (started : os.Started) (H : Type) (enc : TypeId × Value → H) :
    ReturnsInHanded {} Try.checked os 3 .any (Rows.mixMixesSpec.pre6 enc Try.prog Try.f3 Rows.mixMixesRow.domain false) (Rows.mixMixesSpec.post enc Try.prog Try.f3 false true false false) := by
  refine returnsInHanded_of_change (C := Try.checked) own started (by kernel_rfl) Try.func3
    (ChangeSpec.witness6 (enc := enc) (C := Try.checked) false ⟨#[], #[.int .u64 0, .slice none 0 0, .string .empty], []⟩ 8 (by kernel_rfl) (by kernel_rfl) (by kernel_rfl) (by kernel_rfl)) ?_
  intro W base args ds gs before hval0 hW hcnd _
  have hval : ∀ (j : Nat) t v, Try.f3.params[j]? = some t → args[j]? = some v → Value.okWide Try.prog W .any base t v := hval0
  have hW' := hW
  obtain ⟨p, q, hA0, hV, rfl, hfz, hnd⟩ := hW
  have hA : DataW.TrodAll enc Try.prog W 0 (fun _ => true) true Try.f3.params.toList args.toList ds p := hA0
  rw [Try.params3] at hA hval
  obtain ⟨v0, vs0, d0, ds0, p0, q0, hargs, rfl, rfl, r0, r0'⟩ := trodAll_cons hA
  obtain ⟨v1, vs1, d1, ds1, p1, q1, rfl, rfl, rfl, r1, r1'⟩ := trodAll_cons r0'
  obtain ⟨v2, vs2, d2, ds2, p2, q2, rfl, rfl, rfl, r2, r2'⟩ := trodAll_cons r1'
  obtain ⟨rfl, rfl, rfl⟩ := trodAll_nil r2'
  obtain rfl : args = #[v0, v1, v2] := by cases args; simp_all
  obtain ⟨rfl, rfl⟩ := trodVars_none hV
  have hlt : ∀ x ∈ p0 ++ (p1 ++ (p2 ++ ([]))), x.block < W.heap.size := fun x hx => by simpa using hW'.lt x (by simpa using hx)
  have back0 : ∀ W', Below W.heap.size W W' → DataW.Trod enc Try.prog W' 0 (fun b => decide (b < W.heap.size)) true 22 v0 d0 p0 :=
    fun W' hn => Below.trod laidOut (by kernel_rfl) (of_decide_eq_true (by kernel_rfl)) r0 hn fun x hx => hlt x (by simp [hx])
  have back1 : ∀ W', Below W.heap.size W W' → DataW.Trod enc Try.prog W' 0 (fun b => decide (b < W.heap.size)) true 23 v1 d1 p1 :=
    fun W' hn => Below.trod laidOut (by kernel_rfl) (of_decide_eq_true (by kernel_rfl)) r1 hn fun x hx => hlt x (by simp [hx])
  have back2 : ∀ W', Below W.heap.size W W' → DataW.Trod enc Try.prog W' 0 (fun b => decide (b < W.heap.size)) true 9 v2 d2 p2 :=
    fun W' hn => Below.trod laidOut (by kernel_rfl) (of_decide_eq_true (by kernel_rfl)) r2 hn fun x hx => hlt x (by simp [hx])
  obtain ⟨x, rfl, _, _, wx⟩ := open_int Try.underlying22 (hval 0 22 v0 rfl rfl) r0
  have bx := bounds_u64 wx
  obtain ⟨l, cl, hl, bl⟩ := Lst.open_list (hval 1 23 v1 rfl rfl) r1
  obtain ⟨s, rfl, _, _, hs⟩ := Go.ChangeMaps.open_string Try.underlying9 (hval 2 9 v2 rfl rfl) r2
  clear hA0 hval0
  refine (walk' x v1 l s bx W hl hs).mono fun e W' ⟨he, hb⟩ => ?_
  subst he
  exact ⟨_, rfl, _, _, _, [], _, [], hW', trodAll_cons_mk (shut_bool Try.underlying4 _) trodAll_mk0, trodAll_cons_mk (back0 W' hb) (trodAll_cons_mk (back1 W' hb) (trodAll_cons_mk (back2 W' hb) trodAll_mk0)), rfl, hb.frame _, fun h => by cases h⟩
theorem over : Rows.mixMixesRow.holds Try.pinned (OpenSpec.ofChange Rows.mixMixesSpec) :=
  OpenClaim.holds_of_wide 3 Try.f3 rfl rfl rfl rfl rfl rfl rfl ⟨rfl, rfl, rfl, rfl, rfl⟩ rfl rfl rfl rfl rfl (by kernel_rfl) Try.func3 (by kernel_rfl)
    (of_decide_eq_true (by kernel_rfl)) (by unfold Func.isWrapper; rw [if_neg (by decide +kernel)]; exact ⟨rfl, rfl⟩)
    (fun os started H enc _ => lifted os started H enc)
theorem proved : Rows.MixMixesSaid := over
#print axioms proved
end Go.Proofs.Ytjipompbpnebjaa.mixMixes
