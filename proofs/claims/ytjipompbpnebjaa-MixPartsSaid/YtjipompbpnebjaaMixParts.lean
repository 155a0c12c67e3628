/-
  Proved: whatever list and two places are handed in, MixParts returns true: what is added in parts has the sum of all at once. No condition.
-/
import Derived.Test.YtjipompbpnebjaaMxLives
namespace Go.Proofs.Ytjipompbpnebjaa.mixParts
open Go.ChangeShapes Go.WideShapes Go.ChangeAt Go.RowKit Base Mx Lst
theorem state_app (h : Nat) (l m : List Int) : stateN h (l ++ m) = stateN (stateN h l) m := by unfold stateN; rw [List.foldl_append]
theorem parts_eq (l : List Int) (a b : Nat) (hab : a ≤ b) : stateN (stateN (stateN 0 (l.take a)) ((l.drop a).take (b - a))) (l.drop b) = stateN 0 l := by
  have e : l.drop b = (l.drop a).drop (b - a) := by rw [List.drop_drop]; congr 1; omega
  rw [e, ← state_app, ← state_app, List.take_append_drop, List.take_append_drop]
set_option maxHeartbeats 4000000 in
theorem walk (v : Value) (l : List Int) (a b : Int) (w : World) (hp : ∃ p c, v = .slice p l.length c ∧ l.length ≤ c) (hl : Ints 0 w v l) :
    Calls Try.prog 5 #[v, .int .i64 a, .int .i64 b] w (TruePost w) := by
  obtain ⟨p, c, rfl, hc⟩ := hp
  obtain ⟨_, _, _, hll, _⟩ := hl.open_
  by_cases hg : (300 : Int) < (l.length : Int) ∨ a < 0 ∨ b < a ∨ (l.length : Int) < b
  · by_cases h1 : (300 : Int) < (l.length : Int)
    · go_enter Try.func5, Try.ntmps5
      go_wp2_with fail
      refine (lives_any _).mono ?_
      rintro e w1 ⟨rfl, hb⟩
      go_wp2
      go_ret
      exact ⟨rfl, hb⟩
    · have h1' : l.length ≤ 300 := by omega
      by_cases h2 : a < 0
      · go_enter Try.func5, Try.ntmps5
        go_wp2_with fail
        refine (lives_any _).mono ?_
        rintro e w1 ⟨rfl, hb⟩
        go_wp2
        go_ret
        exact ⟨rfl, hb⟩
      · have h2' : 0 ≤ a := by omega
        by_cases h3 : b < a
        · go_enter Try.func5, Try.ntmps5
          go_wp2_with fail
          refine (lives_any _).mono ?_
          rintro e w1 ⟨rfl, hb⟩
          go_wp2
          go_ret
          exact ⟨rfl, hb⟩
        · have h3' : a ≤ b := by omega
          have h4 : (l.length : Int) < b := by omega
          go_enter Try.func5, Try.ntmps5
          go_wp2_with fail
          refine (lives_any _).mono ?_
          rintro e w1 ⟨rfl, hb⟩
          go_wp2
          go_ret
          exact ⟨rfl, hb⟩
  obtain ⟨a, rfl⟩ := Int.eq_ofNat_of_zero_le (show 0 ≤ a by omega)
  obtain ⟨b, rfl⟩ := Int.eq_ofNat_of_zero_le (show 0 ≤ b by omega)
  have h1 : l.length ≤ 300 := by omega
  have h2 : a ≤ b := by omega
  have h3 : b ≤ l.length := by omega
  clear hg
  obtain ⟨va, ea, ia⟩ := hl.slice_h a (by omega) hc
  obtain ⟨vb, eb, ib⟩ := hl.slice_lh a b h2 h3 hc
  obtain ⟨vc, ec, ic⟩ := hl.slice_l rfl b h3 hc
  have HL := Lib.hid hl
  have IA := Lib.hid ia
  have IB := Lib.hid ib
  have IC := Lib.hid ic
  have HPE := Lib.hid (parts_eq l a b h2)
  have hla : (l.take a).length ≤ 300 := by rw [List.length_take]; omega
  have hlb : ((l.drop a).take (b - a)).length ≤ 300 := by rw [List.length_take, List.length_drop]; omega
  have hlc : (l.drop b).length ≤ 300 := by rw [List.length_drop]; omega
  have hsum : (l.take a).length + ((l.drop a).take (b - a)).length + (l.drop b).length = l.length := by
    simp only [List.length_take, List.length_drop]; omega
  have HLN := Lib.hid (And.intro hla (And.intro hlb (And.intro hlc hsum)))
  clear hl ia ib ic hla hlb hlc hsum
  generalize hA : l.take a = la at IA HPE HLN
  generalize hB : (l.drop a).take (b - a) = lb at IB HPE HLN
  generalize hC : l.drop b = lc at IC HPE HLN
  clear hA hB hC
  go_enter Try.func5, Try.ntmps5
  go_wp2_with fail
  refine (lives_any _).mono ?_
  rintro e w1 ⟨rfl, hb⟩
  have HB := Lib.hid hb
  clear hb
  go_wp2_with fail
  refine (new_any _).mono ?_
  rintro e w2 ⟨rfl, hS, hb⟩
  have I : Hid (SI w1 w2 w1.heap.size 0 0) := Lib.hid ⟨hS, hb, Nat.le_refl _⟩
  clear hS hb
  have HA := Lib.hid (add_any w w1.heap.size 0 0 w2 IA.out (HB.out.trans (I.out.2.1.mono HB.out.size)) (.inl HB.out.size) I.out.1 (by have := HLN.out; omega))
  go_wp2_with fail
  refine (HA.out).mono ?_
  rintro e w3 ⟨rfl, hS, hg⟩
  have I2 := Lib.hid (I.out.put hS hg)
  clear HA I hS hg
  have HV := Lib.hid (value_any _ _ _ w3 I2.out.1)
  have HVE : Hid (valueN (stateN 0 la) (0 + la.length) = intsN la) := Lib.hid (by rw [Nat.zero_add]; rfl)
  rw [HVE.out] at HV
  go_wp2_with fail
  refine (HV.out).mono ?_
  rintro e w4 ⟨rfl, n, rfl⟩
  have I := Lib.hid (I2.out.drewN n)
  clear I2 HV HVE
  have HA := Lib.hid (add_any w w1.heap.size _ _ (w3.drewN n) IB.out (HB.out.trans (I.out.2.1.mono HB.out.size)) (.inl HB.out.size) I.out.1 (by have := HLN.out; omega))
  go_wp2_with fail
  refine (HA.out).mono ?_
  rintro e w5 ⟨rfl, hS, hg⟩
  have I2 := Lib.hid (I.out.put hS hg)
  clear HA I hS hg
  have HA := Lib.hid (add_any w w1.heap.size _ _ w5 IC.out (HB.out.trans (I2.out.2.1.mono HB.out.size)) (.inl HB.out.size) I2.out.1 (by have := HLN.out; omega))
  go_wp2_with fail
  refine (HA.out).mono ?_
  rintro e w6 ⟨rfl, hS, hg⟩
  have I3 := Lib.hid (I2.out.put hS hg)
  clear HA I2 hS hg
  have I : Hid (SI w1 w6 w1.heap.size (stateN 0 l) l.length) := Lib.hid (by
    have h := I3.out
    rw [HPE.out, Nat.zero_add, HLN.out.2.2.2] at h
    exact h)
  clear I3
  have HP := Lib.hid (intsP_any w6 (IA.out.below (HB.out.trans (I.out.2.1.mono HB.out.size))) (by have := HLN.out; omega))
  go_wp2_with fail
  refine (HP.out).mono ?_
  rintro e w7 ⟨rfl, hb⟩
  have I2 := Lib.hid (I.out.below hb)
  clear hb HP I
  have HV : Hid (Calls Try.prog 16 #[.pointer (some ⟨w1.heap.size, 0, none⟩)] w7 (ValPost (intsN l) w7)) := Lib.hid (value_any _ _ _ w7 I2.out.1)
  go_wp2_with fail
  refine (HV.out).mono ?_
  rintro e w8 ⟨rfl, n2, rfl⟩
  have I := Lib.hid (I2.out.drewN n2)
  clear HV I2
  have HP := Lib.hid (intsP_any (w7.drewN n2) (HL.out.below (HB.out.trans (I.out.2.1.mono HB.out.size))) (by omega))
  go_wp2_with fail
  refine (HP.out).mono ?_
  rintro e w9 ⟨rfl, hb⟩
  have I2 := Lib.hid (I.out.below hb)
  clear hb HP I
  go_wp2_with fail
  refine (len_any _ _ _ _ I2.out.1).mono ?_
  rintro e wx ⟨rfl, rfl⟩
  go_wp2
  go_ret
  exact ⟨rfl, HB.out.trans (I2.out.2.1.mono HB.out.size)⟩
theorem own : ownKnob Try.prog.godebug = none := by kernel_rfl
theorem laidOut : laidOutB Try.prog = true := by kernel_rfl
set_option maxRecDepth 100000 in
theorem lifted (os : Os) (started : os.Started) (H : Type) (enc : TypeId × Value → H) :
    ReturnsInHanded {} Try.checked os 5 .any (Rows.mixPartsSpec.pre6 enc Try.prog Try.f5 Rows.mixPartsRow.domain false) (Rows.mixPartsSpec.post enc Try.prog Try.f5 false true false false) := by
  refine returnsInHanded_of_change (C := Try.checked) own started (by kernel_rfl) Try.func5
    (ChangeSpec.witness6 (enc := enc) (C := Try.checked) false ⟨#[], #[.slice none 0 0, .int .i64 0, .int .i64 0], []⟩ 8 (by kernel_rfl) (by kernel_rfl) (by kernel_rfl) (by kernel_rfl)) ?_
  intro W base args ds gs before hval0 hW hcnd _
  have hval : ∀ (j : Nat) t v, Try.f5.params[j]? = some t → args[j]? = some v → Value.okWide Try.prog W .any base t v := hval0
  have hW' := hW
  obtain ⟨p, q, hA0, hV, rfl, hfz, hnd⟩ := hW
  have hA : DataW.TrodAll enc Try.prog W 0 (fun _ => true) true Try.f5.params.toList args.toList ds p := hA0
  rw [Try.params5] at hA hval
  obtain ⟨v0, vs0, d0, ds0, p0, q0, hargs, rfl, rfl, r0, r0'⟩ := trodAll_cons hA
  obtain ⟨v1, vs1, d1, ds1, p1, q1, rfl, rfl, rfl, r1, r1'⟩ := trodAll_cons r0'
  obtain ⟨v2, vs2, d2, ds2, p2, q2, rfl, rfl, rfl, r2, r2'⟩ := trodAll_cons r1'
  obtain ⟨rfl, rfl, rfl⟩ := trodAll_nil r2'
  obtain rfl : args = #[v0, v1, v2] := by cases args; simp_all
  obtain ⟨rfl, rfl⟩ := trodVars_none hV
  have hlt : ∀ x ∈ p0 ++ (p1 ++ (p2 ++ ([]))), x.block < W.heap.size := fun x hx => by simpa using hW'.lt x (by simpa using hx)
  have back0 : ∀ W', Below W.heap.size W W' → DataW.Trod enc Try.prog W' 0 (fun b => decide (b < W.heap.size)) true 23 v0 d0 p0 :=
    fun W' hn => Below.trod laidOut (by kernel_rfl) (of_decide_eq_true (by kernel_rfl)) r0 hn fun x hx => hlt x (by simp [hx])
  have back1 : ∀ W', Below W.heap.size W W' → DataW.Trod enc Try.prog W' 0 (fun b => decide (b < W.heap.size)) true 3 v1 d1 p1 :=
    fun W' hn => Below.trod laidOut (by kernel_rfl) (of_decide_eq_true (by kernel_rfl)) r1 hn fun x hx => hlt x (by simp [hx])
  have back2 : ∀ W', Below W.heap.size W W' → DataW.Trod enc Try.prog W' 0 (fun b => decide (b < W.heap.size)) true 3 v2 d2 p2 :=
    fun W' hn => Below.trod laidOut (by kernel_rfl) (of_decide_eq_true (by kernel_rfl)) r2 hn fun x hx => hlt x (by simp [hx])
  obtain ⟨l, cl, hl, bl⟩ := Lst.open_list (hval 0 23 v0 rfl rfl) r0
  obtain ⟨a, rfl, _, _, wa⟩ := open_int Try.underlying3 (hval 1 3 v1 rfl rfl) r1
  have ba := bounds_i64 wa
  obtain ⟨b, rfl, _, _, wb⟩ := open_int Try.underlying3 (hval 2 3 v2 rfl rfl) r2
  have bb := bounds_i64 wb
  clear hA0 hval0
  refine (walk v0 l a b W cl hl).mono fun e W' ⟨he, hb⟩ => ?_
  subst he
  exact ⟨_, rfl, _, _, _, [], _, [], hW', trodAll_cons_mk (shut_bool Try.underlying4 _) trodAll_mk0, trodAll_cons_mk (back0 W' hb) (trodAll_cons_mk (back1 W' hb) (trodAll_cons_mk (back2 W' hb) trodAll_mk0)), rfl, hb.frame _, fun h => by cases h⟩
theorem over : Rows.mixPartsRow.holds Try.pinned (OpenSpec.ofChange Rows.mixPartsSpec) :=
  OpenClaim.holds_of_wide 5 Try.f5 rfl rfl rfl rfl rfl rfl rfl ⟨rfl, rfl, rfl, rfl, rfl⟩ rfl rfl rfl rfl rfl (by kernel_rfl) Try.func5 (by kernel_rfl)
    (of_decide_eq_true (by kernel_rfl)) (by unfold Func.isWrapper; rw [if_neg (by decide +kernel)]; exact ⟨rfl, rfl⟩)
    (fun os started H enc _ => lifted os started H enc)
theorem proved : Rows.MixPartsSaid := over
#print axioms proved
end Go.Proofs.Ytjipompbpnebjaa.mixParts
