/-
  Proved: whatever two numbers are handed in, NumTimes returns true: a product with a small number is told just if the sum of as many is, and is it. No condition; the library's tables are as their texts lay them.
-/
import Derived.Test.YtjipompbpnebjaaDoorNuDoor
namespace Go.Proofs.YtjipompbpnebjaaDoor.numTimes
open Go.ChangeShapes Go.WideShapes Go.ChangeAt Go.RowKit Base Nu Lst
/-- Of k times a: whether it fits, and it, or 0. -/
def st (a : Int) (k : Nat) : Bool × Int := (fits ((k : Int) * a), if fits ((k : Int) * a) = true then (k : Int) * a else 0)
theorem fits_iff (x : Int) : fits x = true ↔ -9223372036854775808 ≤ x ∧ x ≤ 9223372036854775807 := by unfold fits; exact decide_eq_true_iff
theorem no_more {a : Int} {k n : Nat} (h : fits ((k : Int) * a) = false) (hkn : k ≤ n) : fits ((n : Int) * a) = false := by
  rw [Bool.eq_false_iff] at h ⊢
  intro h2
  apply h
  rw [fits_iff] at h2 ⊢
  have hk : (k : Int) ≤ (n : Int) := by omega
  have hk0 : (0 : Int) ≤ (k : Int) := by omega
  by_cases ha : 0 ≤ a
  · have h3 : (k : Int) * a ≤ (n : Int) * a := Int.mul_le_mul_of_nonneg_right hk ha
    have h4 : 0 ≤ (k : Int) * a := Int.mul_nonneg hk0 ha
    omega
  · have h3 : (k : Int) * (-a) ≤ (n : Int) * (-a) := Int.mul_le_mul_of_nonneg_right hk (by omega)
    have h4 : 0 ≤ (k : Int) * (-a) := Int.mul_nonneg hk0 (by omega)
    rw [Int.mul_neg, Int.mul_neg] at h3
    rw [Int.mul_neg] at h4
    omega
theorem next_ (a : Int) (k : Nat) : ((k + 1 : Nat) : Int) * a = (k : Int) * a + a := by
  rw [Int.natCast_add, Int.add_mul]; simp
theorem st_zero {a : Int} {k : Nat} {m : Int} (h : st a k = (false, m)) : m = 0 := by
  unfold st at h
  obtain ⟨h1, h2⟩ := Prod.mk.inj h
  rw [if_neg (by rw [h1]; decide)] at h2
  exact h2.symm
theorem st_true {a : Int} {k : Nat} {m : Int} (h : st a k = (true, m)) : fits ((k : Int) * a) = true ∧ m = (k : Int) * a := by
  unfold st at h
  obtain ⟨h1, h2⟩ := Prod.mk.inj h
  rw [if_pos h1] at h2
  exact ⟨h1, h2.symm⟩
theorem st_false {a : Int} {k n : Nat} {m : Int} (_ : n ≤ 60) (h : st a k = (false, m)) (hk : k ≤ n) : st a n = (false, 0) := by
  unfold st at h ⊢
  obtain ⟨h1, h2⟩ := Prod.mk.inj h
  rw [no_more h1 hk, if_neg (by decide)]
set_option maxHeartbeats 4000000 in
theorem walk (a n : Int) (ha : -9223372036854775808 ≤ a ∧ a ≤ 9223372036854775807) (hn : -9223372036854775808 ≤ n ∧ n ≤ 9223372036854775807) (w : World) (hp : Pow w) :
    Calls Tryd.prog 6 #[.int .i64 a, .int .i64 n] w (TruePost w) := by
  have HL := Lib.hid (lives_any w hp)
  clear hp
  by_cases h1 : n < 0
  · go_enter Tryd.func6, Tryd.ntmps6
    go_wp2_with fail
    refine (HL.out).mono ?_
    rintro e w1 ⟨rfl, hb⟩
    go_wp2
    go_ret
    exact ⟨rfl, hb⟩
  by_cases h2 : 60 < n
  · have h1' : 0 ≤ n := by omega
    go_enter Tryd.func6, Tryd.ntmps6
    go_wp2_with fail
    refine (HL.out).mono ?_
    rintro e w1 ⟨rfl, hb⟩
    go_wp2
    go_ret
    exact ⟨rfl, hb⟩
  obtain ⟨n, rfl⟩ := Int.eq_ofNat_of_zero_le (show 0 ≤ n by omega)
  have h3 : n ≤ 60 := by omega
  clear h1 h2 hn
  have hA : ∀ (k : Nat) (w : World), fits ((k : Int) * a) = true → Calls Tryd.prog 15 #[.int .i64 ((k : Int) * a), .int .i64 a] w fun e w' => e = .returned (.tuple #[.int .i64 (st a (k + 1)).2, .bool (st a (k + 1)).1]) ∧ w = w' := fun k w hf => by
    have hb := (fits_iff _).1 hf
    have h := addP_any ((k : Int) * a) a hb.1 hb.2 ha.1 ha.2 w
    rw [← next_] at h
    exact h
  have hM1 : ∀ w, Calls Tryd.prog 17 #[.int .i64 a, .int .i64 (n : Int)] w fun e w' => e = .returned (.tuple #[.int .i64 (st a n).2, .bool (st a n).1]) ∧ w = w' := fun w => by
    have h := mulP_any a (n : Int) ha.1 ha.2 (by omega) (by omega) w
    rw [Int.mul_comm] at h
    exact h
  have hM2 : ∀ w, Calls Tryd.prog 17 #[.int .i64 (n : Int), .int .i64 a] w fun e w' => e = .returned (.tuple #[.int .i64 (st a n).2, .bool (st a n).1]) ∧ w = w' := fun w => mulP_any (n : Int) a (by omega) (by omega) ha.1 ha.2 w
  have HA := Lib.hid hA
  have HM1 := Lib.hid hM1
  have HM2 := Lib.hid hM2
  have H0 : Hid (st a 0 = (true, 0)) := Lib.hid (by simp [st, fits])
  have d0 : decide ((n : Int) < 0) = false := by rw [decide_eq_false_iff_not]; omega
  have d1 : decide ((60 : Int) < (n : Int)) = false := by rw [decide_eq_false_iff_not]; omega
  clear hA hM1 hM2 ha
  go_enter Tryd.func6, Tryd.ntmps6
  go_wp2_with fail
  refine (HL.out).mono ?_
  rintro e w1 ⟨rfl, hb⟩
  have HB := Lib.hid hb
  clear hb HL
  go_wp2_with fail
  go_loop [5, 6, 7] (fun s5 s6 s7 => ∃ (k : Nat) (m : Int) (f : Bool), s7 = .int .i64 (k : Int) ∧ k ≤ n ∧ s5 = .int .i64 m ∧ s6 = .bool f ∧ Hid (st a k = (f, m))) (fun _ _ s7 => n - (intOf s7).toNat)
  case atStart => exact ⟨0, 0, true, rfl, Nat.zero_le _, rfl, rfl, H0⟩
  case round =>
    obtain ⟨k, m, f, rfl, hk, rfl, rfl, HS⟩ := hrel
    by_cases hlt : k < n
    · cases f
      · have hE := st_false h3 HS.out hk
        have M1 := Lib.hid HM1.out
        rw [hE] at M1
        have M2 := Lib.hid HM2.out
        rw [hE] at M2
        clear HM1 HM2 HA HS hE
        go_wp2_with fail
        refine (M1.out _).mono ?_
        rintro e wx ⟨rfl, rfl⟩
        go_wp2_with fail
        refine (M2.out _).mono ?_
        rintro e wx ⟨rfl, rfl⟩
        go_wp2
        go_ret
        exact ⟨rfl, HB.out⟩
      · have hfm := st_true HS.out
        have A := Lib.hid (HA.out k w1 hfm.1)
        rw [← hfm.2] at A
        clear hfm
        obtain ⟨f', m', hst⟩ : ∃ f' m', st a (k + 1) = (f', m') := ⟨_, _, rfl⟩
        rw [hst] at A
        have HS2 := Lib.hid hst
        clear hst HS
        go_wp2_with fail
        refine (A.out).mono ?_
        rintro e wx ⟨rfl, rfl⟩
        go_wp2_with fail
        go_round
        case rel => exact ⟨k + 1, m', f', by go_num, by omega, rfl, rfl, HS2⟩
        case measure => simp [intOf]; omega
    · have e : k = n := by omega
      subst e
      have M1 := Lib.hid HM1.out
      rw [HS.out] at M1
      have M2 := Lib.hid HM2.out
      rw [HS.out] at M2
      cases f
      · have hm : m = 0 := st_zero HS.out
        subst hm
        clear HM1 HM2 HA HS
        go_wp2_with fail
        refine (M1.out _).mono ?_
        rintro e wx ⟨rfl, rfl⟩
        go_wp2_with fail
        refine (M2.out _).mono ?_
        rintro e wx ⟨rfl, rfl⟩
        go_wp2
        go_ret
        exact ⟨rfl, HB.out⟩
      · clear HM1 HM2 HA HS
        go_wp2_with fail
        refine (M1.out _).mono ?_
        rintro e wx ⟨rfl, rfl⟩
        go_wp2_with fail
        refine (M2.out _).mono ?_
        rintro e wx ⟨rfl, rfl⟩
        go_wp2
        go_ret
        exact ⟨rfl, HB.out⟩
theorem own : ownKnob Tryd.prog.godebug = none := by kernel_rfl
theorem laidOut : laidOutB Tryd.prog = true := by kernel_rfl
/-- What the walk gives, for every argument and every world that holds what is laid. -/
theorem contract (H : Type) (enc : TypeId × Value → H) (W : World) (base : Nat) (args : Array Value) (ds gs : List (DataW H)) (before : List MemPlace)
    (hval : ∀ (j : Nat) t v, Tryd.f6.params[j]? = some t → args[j]? = some v → Value.okWide Tryd.prog W .any base t v)
    (hW : DataW.Whole enc Tryd.prog Tryd.f6.params.toList Rows.numTimesSpec.vars false W args.toList ds gs before) (hL : laidMetH Tryd.prog Rows.numTimesRow.laid W) :
    Calls Tryd.prog 6 args W fun e W' => ∃ v, e = .returned v ∧ Rows.numTimesSpec.post enc Tryd.prog Tryd.f6 false true false false W args v W' := by
  have hW' := hW
  obtain ⟨p, q, hA0, hV, rfl, hfz, hnd⟩ := hW
  have hA : DataW.TrodAll enc Tryd.prog W 0 (fun _ => true) true Tryd.f6.params.toList args.toList ds p := hA0
  rw [Tryd.params6] at hA hval
  obtain ⟨v0, vs0, d0, ds0, p0, q0, hargs, rfl, rfl, r0, r0'⟩ := trodAll_cons hA
  obtain ⟨v1, vs1, d1, ds1, p1, q1, rfl, rfl, rfl, r1, r1'⟩ := trodAll_cons r0'
  obtain ⟨rfl, rfl, rfl⟩ := trodAll_nil r1'
  obtain rfl : args = #[v0, v1] := by cases args; simp_all
  obtain ⟨rfl, rfl⟩ := trodVars_none hV
  have hlt : ∀ x ∈ p0 ++ (p1 ++ ([])), x.block < W.heap.size := fun x hx => by simpa using hW'.lt x (by simpa using hx)
  have back0 : ∀ W', Below W.heap.size W W' → DataW.Trod enc Tryd.prog W' 0 (fun b => decide (b < W.heap.size)) true 3 v0 d0 p0 :=
    fun W' hn => Below.trod laidOut (by kernel_rfl) (of_decide_eq_true (by kernel_rfl)) r0 hn fun x hx => hlt x (by simp [hx])
  have back1 : ∀ W', Below W.heap.size W W' → DataW.Trod enc Tryd.prog W' 0 (fun b => decide (b < W.heap.size)) true 3 v1 d1 p1 :=
    fun W' hn => Below.trod laidOut (by kernel_rfl) (of_decide_eq_true (by kernel_rfl)) r1 hn fun x hx => hlt x (by simp [hx])
  obtain ⟨a, rfl, _, _, wa⟩ := open_int Tryd.underlying3 (hval 0 3 v0 rfl rfl) r0
  have ba := bounds_i64 wa
  obtain ⟨n, rfl, _, _, wn⟩ := open_int Tryd.underlying3 (hval 1 3 v1 rfl rfl) r1
  have bn := bounds_i64 wn
  refine (walk a n ba bn W (pow_of hL)).mono fun e W' ⟨he, hb⟩ => ?_
  subst he
  exact ⟨_, rfl, _, _, _, [], _, [], hW', trodAll_cons_mk (shut_bool Tryd.underlying4 _) trodAll_mk0, trodAll_cons_mk (back0 W' hb) (trodAll_cons_mk (back1 W' hb) trodAll_mk0), rfl, hb.frame _, fun h => by cases h⟩
def wargs : Array Value := #[.int .i64 0, .int .i64 0]
theorem laid_met (os : Os) : laidMet Tryd.prog Rows.numTimesRow.laid ((laidWorld os).forCall (fun _ _ => 0) ⟨#[], wargs, []⟩).memory :=
  laidMet_of_run' 8 (by kernel_rfl) (by kernel_rfl)
theorem reads (os : Os) {H : Type} (enc : TypeId × Value → H) : ∃ places, DataW.whole enc Tryd.prog ((laidWorld os).forCall (fun _ _ => 0) ⟨#[], wargs, []⟩).memory Tryd.f6.params.toList Rows.numTimesSpec.vars false wargs.toList 8 = some ([.lit (.int .i64 0), .lit (.int .i64 0)], [], places) :=
  ⟨[], by kernel_rfl⟩
set_option maxRecDepth 100000 in
theorem lifted (os : Os) (started : os.Started) (H : Type) (enc : TypeId × Value → H) (F : Stop.Interp) :
    ReturnsInHanded {} Tryd.checked os 6 .any ((OpenSpec.ofChange Rows.numTimesSpec).preRow enc Tryd.prog Tryd.f6 Rows.numTimesRow.domain false Rows.numTimesRow.laid) (((OpenSpec.ofChange Rows.numTimesSpec).at F).post enc Tryd.prog Tryd.f6 false true false false) := by
  obtain ⟨places, hx⟩ := reads os enc
  refine returnsInHanded_of_row (C := Tryd.checked) (s := OpenSpec.ofChange Rows.numTimesSpec) own started (by kernel_rfl) Tryd.func6
    (witness_row_at (enc := enc) (C := Tryd.checked) false (laidWorld os) wargs rfl (by kernel_rfl) (by kernel_rfl) (by kernel_rfl)
      (OpenSpec.preRow_of_cond 8 hx (by kernel_rfl) (fun k hk => by cases hk) (by kernel_rfl) (laid_met os))) ?_
  intro W base args ds gs before hval hW _ _ _ hL _ _
  exact contract H enc W base args ds gs before hval hW hL
theorem said : Rows.NumTimesSaid :=
  OpenClaim.holds_of_cond 6 Tryd.f6 rfl rfl rfl rfl rfl rfl rfl ⟨rfl, rfl, rfl, rfl, rfl⟩ rfl rfl rfl rfl rfl (by kernel_rfl) Tryd.func6 (by kernel_rfl)
    (of_decide_eq_true (by kernel_rfl)) (by unfold Func.isWrapper; first | (rw [if_pos (by decide +kernel)]; kernel_rfl) | (rw [if_neg (by decide +kernel)]; exact ⟨rfl, rfl⟩))
    (fun os started H enc _ F => by rw [OpenClaim.pre_eq_preRow]; exact lifted os started H enc F)
/-- No parameter wants a stand-in; the program's own looks are off. -/
theorem plain (f : FuncId) (fn : Func) (hf : Tryd.pinned.checked.prog.funcNamed "tenter/tenterlaw03.NumTimes" = some f) (hfn : Tryd.pinned.checked.prog.funcs[f]? = some fn) :
    false = Tryd.pinned.checked.prog.looks [] ∧ ∀ (j : Nat) t, fn.params[j]? = some t → Tryd.pinned.checked.prog.wantsStandIn t = false := by
  obtain rfl : f = 6 := Option.some.inj ((show Tryd.prog.funcNamed "tenter/tenterlaw03.NumTimes" = some 6 by kernel_rfl).symm.trans hf) |>.symm
  obtain rfl : fn = Tryd.f6 := (Option.some.inj (Tryd.func6.symm.trans hfn)).symm
  refine ⟨by kernel_rfl, fun j t ht => ?_⟩
  rw [Tryd.params6] at ht
  have hm : t = 3 := by have := Array.mem_of_getElem? ht; simp at this; omega
  subst hm
  exact (show Tryd.prog.wantsStandIn 3 = false by kernel_rfl)
/-- The card. -/
theorem proved : Rows.NumTimesCardSaid :=
  Claim7.holds_tied_plain_at .later [] _ _ _ _ said (fun _ h => by cases h) (by kernel_rfl) (fun _ h => by cases h) numTimes_row_tie rfl ⟨rfl, rfl⟩ (by kernel_rfl) rfl plain (by kernel_rfl)
#print axioms proved
end Go.Proofs.YtjipompbpnebjaaDoor.numTimes
