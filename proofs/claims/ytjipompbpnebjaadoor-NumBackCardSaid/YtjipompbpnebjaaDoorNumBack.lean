/-
  Proved: whatever number and text are handed in, NumBack returns true: what is read has just that text, and the text of a number from 0 to MaxNum is read as it. No condition; the library's tables are as their texts lay them.
-/
import Derived.Test.YtjipompbpnebjaaDoorNuDoor
namespace Go.Proofs.YtjipompbpnebjaaDoor.numBack
open Go.ChangeShapes Go.WideShapes Go.ChangeAt Go.RowKit Base Nu Lst
theorem readL_rest (l : List UInt8) : (readL l).2 = 0 ∨ (readL l).2 ≠ 0 ∧ (readL l).1 = 0 := by
  unfold readL
  split
  · exact .inr ⟨by decide, rfl⟩
  · split
    · split
      · exact .inr ⟨by decide, rfl⟩
      · exact .inl rfl
    · exact .inr ⟨by decide, rfl⟩
set_option maxHeartbeats 2000000 in
theorem walk (n : Int) (s : ByteArray) (hn : -9223372036854775808 ≤ n ∧ n ≤ 9223372036854775807) (hs : s.size ≤ 9223372036854775807) (w : World) (hp : Pow w) :
    Calls Tryd.prog 5 #[.int .i64 n, .string s] w (TruePost w) := by
  have HL := Lib.hid (lives_any w hp)
  have HP := Lib.hid hp
  clear hp
  have htl := itoa_len hn.1 hn.2
  have T1 : Hid (∀ w, Pow w → Calls Tryd.prog 11 #[.int .i64 n] w fun e w' => e = .returned (.string ⟨(Lib.itoa n).toArray⟩) ∧ Below w.heap.size w w') := Lib.hid fun w hp => text_any n hn.1 hn.2 w hp
  have hts : (⟨(Lib.itoa n).toArray⟩ : ByteArray).size ≤ 9223372036854775807 := by
    show (Lib.itoa n).toArray.size ≤ 9223372036854775807
    have : (Lib.itoa n).toArray.size = (Lib.itoa n).length := by simp
    omega
  have R1 : Hid (∀ w, Calls Tryd.prog 9 #[.string ⟨(Lib.itoa n).toArray⟩] w fun e w' => e = .returned (.tuple #[.int .i64 (readL (Lib.itoa n)).1, .int .i64 (readL (Lib.itoa n)).2]) ∧ w = w') := Lib.hid fun w => read_any ⟨(Lib.itoa n).toArray⟩ w hts
  have hq := read_itoa n
  have R2 := Lib.hid (fun w => read_any s w hs)
  have hback := @itoa_read s.data.toList
  have hrest := readL_rest s.data.toList
  have HT : Hid (∀ w, (readL s.data.toList).2 = 0 → Pow w → Calls Tryd.prog 11 #[.int .i64 (readL s.data.toList).1] w fun e w' => e = .returned (.string s) ∧ Below w.heap.size w w') := Lib.hid fun w h0 hp => by
    obtain ⟨h1, h2, h3⟩ := hback h0
    have h := text_any (readL s.data.toList).1 (by omega) (by omega) w hp
    rw [h1] at h
    exact h
  have hbd : (readL s.data.toList).2 = 0 → 0 ≤ (readL s.data.toList).1 ∧ (readL s.data.toList).1 ≤ 2147483647 := fun h => (hback h).2
  clear hback hts htl
  generalize hreq : readL (Lib.itoa n) = q at R1 hq
  generalize readL s.data.toList = r at R2 HT hbd hrest
  clear hreq
  generalize (⟨(Lib.itoa n).toArray⟩ : ByteArray) = t at T1 R1
  obtain ⟨r1, r2⟩ := r
  have HBD := Lib.hid hbd
  have HRS := Lib.hid hrest
  clear hbd hrest
  by_cases h1 : 0 ≤ n ∧ n ≤ 2147483647
  · rw [if_pos h1] at hq
    obtain ⟨h1a, h1b⟩ := h1
    subst hq
    go_enter Tryd.func5, Tryd.ntmps5
    go_wp2_with fail
    refine (HL.out).mono ?_
    rintro e w1 ⟨rfl, hb⟩
    have B1 := Lib.hid hb
    clear hb HL
    go_wp2_with fail
    refine (T1.out _ (HP.out.below B1.out)).mono ?_
    rintro e w2 ⟨rfl, hb⟩
    have B2 := Lib.hid (B1.out.trans (hb.mono B1.out.size))
    clear hb B1
    go_wp2_with fail
    refine (R1.out _).mono ?_
    rintro e wx ⟨rfl, rfl⟩
    go_wp2_with fail
    refine (R2.out _).mono ?_
    rintro e wx ⟨rfl, rfl⟩
    by_cases h2 : r2 = 0
    · subst h2
      have hT := Lib.hid (HT.out w2 rfl (HP.out.below B2.out))
      obtain ⟨g1, g2⟩ := HBD.out rfl
      clear HT HRS HBD
      go_wp2_with fail
      refine (hT.out).mono ?_
      rintro e w3 ⟨rfl, hb⟩
      go_wp2
      go_ret
      exact ⟨rfl, B2.out.trans (hb.mono B2.out.size)⟩
    · have h2' : (r2 != 0) = true := by rw [bne_iff_ne]; exact h2
      clear HT HRS HBD
      go_wp2
      go_ret
      exact ⟨rfl, B2.out⟩
  · rw [if_neg h1] at hq
    by_cases hneg : n < 0
    · rw [if_pos hneg] at hq
      clear h1
      subst hq
      go_enter Tryd.func5, Tryd.ntmps5
      go_wp2_with fail
      refine (HL.out).mono ?_
      rintro e w1 ⟨rfl, hb⟩
      have B1 := Lib.hid hb
      clear hb HL
      go_wp2_with fail
      refine (T1.out _ (HP.out.below B1.out)).mono ?_
      rintro e w2 ⟨rfl, hb⟩
      have B2 := Lib.hid (B1.out.trans (hb.mono B1.out.size))
      clear hb B1
      go_wp2_with fail
      refine (R1.out _).mono ?_
      rintro e wx ⟨rfl, rfl⟩
      go_wp2_with fail
      refine (R2.out _).mono ?_
      rintro e wx ⟨rfl, rfl⟩
      by_cases h2 : r2 = 0
      · subst h2
        have hT := Lib.hid (HT.out w2 rfl (HP.out.below B2.out))
        obtain ⟨g1, g2⟩ := HBD.out rfl
        clear HT HRS HBD
        go_wp2_with fail
        refine (hT.out).mono ?_
        rintro e w3 ⟨rfl, hb⟩
        go_wp2
        go_ret
        exact ⟨rfl, B2.out.trans (hb.mono B2.out.size)⟩
      · have h2' : (r2 != 0) = true := by rw [bne_iff_ne]; exact h2
        clear HT HRS HBD
        go_wp2
        go_ret
        exact ⟨rfl, B2.out⟩
    · rw [if_neg hneg] at hq
      have h1a : 0 ≤ n := by omega
      have h1b : 2147483647 < n := by omega
      clear h1 hneg
      subst hq
      go_enter Tryd.func5, Tryd.ntmps5
      go_wp2_with fail
      refine (HL.out).mono ?_
      rintro e w1 ⟨rfl, hb⟩
      have B1 := Lib.hid hb
      clear hb HL
      go_wp2_with fail
      refine (T1.out _ (HP.out.below B1.out)).mono ?_
      rintro e w2 ⟨rfl, hb⟩
      have B2 := Lib.hid (B1.out.trans (hb.mono B1.out.size))
      clear hb B1
      go_wp2_with fail
      refine (R1.out _).mono ?_
      rintro e wx ⟨rfl, rfl⟩
      go_wp2_with fail
      refine (R2.out _).mono ?_
      rintro e wx ⟨rfl, rfl⟩
      by_cases h2 : r2 = 0
      · subst h2
        have hT := Lib.hid (HT.out w2 rfl (HP.out.below B2.out))
        obtain ⟨g1, g2⟩ := HBD.out rfl
        clear HT HRS HBD
        go_wp2_with fail
        refine (hT.out).mono ?_
        rintro e w3 ⟨rfl, hb⟩
        go_wp2
        go_ret
        exact ⟨rfl, B2.out.trans (hb.mono B2.out.size)⟩
      · have h2' : (r2 != 0) = true := by rw [bne_iff_ne]; exact h2
        clear HT HRS HBD
        go_wp2
        go_ret
        exact ⟨rfl, B2.out⟩
theorem own : ownKnob Tryd.prog.godebug = none := by kernel_rfl
theorem laidOut : laidOutB Tryd.prog = true := by kernel_rfl
/-- What the walk gives, for every argument and every world that holds what is laid. -/
theorem contract (H : Type) (enc : TypeId × Value → H) (W : World) (base : Nat) (args : Array Value) (ds gs : List (DataW H)) (before : List MemPlace)
    (hval : ∀ (j : Nat) t v, Tryd.f5.params[j]? = some t → args[j]? = some v → Value.okWide Tryd.prog W .any base t v)
    (hW : DataW.Whole enc Tryd.prog Tryd.f5.params.toList Rows.numBackSpec.vars false W args.toList ds gs before) (hL : laidMetH Tryd.prog Rows.numBackRow.laid W) :
    Calls Tryd.prog 5 args W fun e W' => ∃ v, e = .returned v ∧ Rows.numBackSpec.post enc Tryd.prog Tryd.f5 false true false false W args v W' := by
  have hW' := hW
  obtain ⟨p, q, hA0, hV, rfl, hfz, hnd⟩ := hW
  have hA : DataW.TrodAll enc Tryd.prog W 0 (fun _ => true) true Tryd.f5.params.toList args.toList ds p := hA0
  rw [Tryd.params5] at hA hval
  obtain ⟨v0, vs0, d0, ds0, p0, q0, hargs, rfl, rfl, r0, r0'⟩ := trodAll_cons hA
  obtain ⟨v1, vs1, d1, ds1, p1, q1, rfl, rfl, rfl, r1, r1'⟩ := trodAll_cons r0'
  obtain ⟨rfl, rfl, rfl⟩ := trodAll_nil r1'
  obtain rfl : args = #[v0, v1] := by cases args; simp_all
  obtain ⟨rfl, rfl⟩ := trodVars_none hV
  have hlt : ∀ x ∈ p0 ++ (p1 ++ ([])), x.block < W.heap.size := fun x hx => by simpa using hW'.lt x (by simpa using hx)
  have back0 : ∀ W', Below W.heap.size W W' → DataW.Trod enc Tryd.prog W' 0 (fun b => decide (b < W.heap.size)) true 3 v0 d0 p0 :=
    fun W' hn => Below.trod laidOut (by kernel_rfl) (of_decide_eq_true (by kernel_rfl)) r0 hn fun x hx => hlt x (by simp [hx])
  have back1 : ∀ W', Below W.heap.size W W' → DataW.Trod enc Tryd.prog W' 0 (fun b => decide (b < W.heap.size)) true 9 v1 d1 p1 :=
    fun W' hn => Below.trod laidOut (by kernel_rfl) (of_decide_eq_true (by kernel_rfl)) r1 hn fun x hx => hlt x (by simp [hx])
  obtain ⟨n, rfl, _, _, wn⟩ := open_int Tryd.underlying3 (hval 0 3 v0 rfl rfl) r0
  have bn := bounds_i64 wn
  obtain ⟨s, rfl, _, _, hs⟩ := Go.ChangeMaps.open_string Tryd.underlying9 (hval 1 9 v1 rfl rfl) r1
  refine (walk n s bn hs W (pow_of hL)).mono fun e W' ⟨he, hb⟩ => ?_
  subst he
  exact ⟨_, rfl, _, _, _, [], _, [], hW', trodAll_cons_mk (shut_bool Tryd.underlying4 _) trodAll_mk0, trodAll_cons_mk (back0 W' hb) (trodAll_cons_mk (back1 W' hb) trodAll_mk0), rfl, hb.frame _, fun h => by cases h⟩
def wargs : Array Value := #[.int .i64 0, .string .empty]
theorem laid_met (os : Os) : laidMet Tryd.prog Rows.numBackRow.laid ((laidWorld os).forCall (fun _ _ => 0) ⟨#[], wargs, []⟩).memory :=
  laidMet_of_run' 8 (by kernel_rfl) (by kernel_rfl)
theorem reads (os : Os) {H : Type} (enc : TypeId × Value → H) : ∃ places, DataW.whole enc Tryd.prog ((laidWorld os).forCall (fun _ _ => 0) ⟨#[], wargs, []⟩).memory Tryd.f5.params.toList Rows.numBackSpec.vars false wargs.toList 8 = some ([.lit (.int .i64 0), .lit (.string [])], [], places) :=
  ⟨[], by kernel_rfl⟩
set_option maxRecDepth 100000 in
theorem lifted (os : Os) (started : os.Started) (H : Type) (enc : TypeId × Value → H) (F : Stop.Interp) :
    ReturnsInHanded {} Tryd.checked os 5 .any ((OpenSpec.ofChange Rows.numBackSpec).preRow enc Tryd.prog Tryd.f5 Rows.numBackRow.domain false Rows.numBackRow.laid) (((OpenSpec.ofChange Rows.numBackSpec).at F).post enc Tryd.prog Tryd.f5 false true false false) := by
  obtain ⟨places, hx⟩ := reads os enc
  refine returnsInHanded_of_row (C := Tryd.checked) (s := OpenSpec.ofChange Rows.numBackSpec) own started (by kernel_rfl) Tryd.func5
    (witness_row_at (enc := enc) (C := Tryd.checked) false (laidWorld os) wargs rfl (by kernel_rfl) (by kernel_rfl) (by kernel_rfl)
      (OpenSpec.preRow_of_cond 8 hx (by kernel_rfl) (fun k hk => by cases hk) (by kernel_rfl) (laid_met os))) ?_
  intro W base args ds gs before hval hW _ _ _ hL _ _
  exact contract H enc W base args ds gs before hval hW hL
theorem said : Rows.NumBackSaid :=
  OpenClaim.holds_of_cond 5 Tryd.f5 rfl rfl rfl rfl rfl rfl rfl ⟨rfl, rfl, rfl, rfl, rfl⟩ rfl rfl rfl rfl rfl (by kernel_rfl) Tryd.func5 (by kernel_rfl)
    (of_decide_eq_true (by kernel_rfl)) (by unfold Func.isWrapper; first | (rw [if_pos (by decide +kernel)]; kernel_rfl) | (rw [if_neg (by decide +kernel)]; exact ⟨rfl, rfl⟩))
    (fun os started H enc _ F => by rw [OpenClaim.pre_eq_preRow]; exact lifted os started H enc F)
/-- No parameter wants a stand-in; the program's own looks are off. -/
theorem plain (f : FuncId) (fn : Func) (hf : Tryd.pinned.checked.prog.funcNamed "tenter/tenterlaw03.NumBack" = some f) (hfn : Tryd.pinned.checked.prog.funcs[f]? = some fn) :
    false = Tryd.pinned.checked.prog.looks [] ∧ ∀ (j : Nat) t, fn.params[j]? = some t → Tryd.pinned.checked.prog.wantsStandIn t = false := by
  obtain rfl : f = 5 := Option.some.inj ((show Tryd.prog.funcNamed "tenter/tenterlaw03.NumBack" = some 5 by kernel_rfl).symm.trans hf) |>.symm
  obtain rfl : fn = Tryd.f5 := (Option.some.inj (Tryd.func5.symm.trans hfn)).symm
  refine ⟨by kernel_rfl, fun j t ht => ?_⟩
  rw [Tryd.params5] at ht
  have hm : t = 3 ∨ t = 9 := by have := Array.mem_of_getElem? ht; simp at this; omega
  rcases hm with rfl | rfl
  · exact (show Tryd.prog.wantsStandIn 3 = false by kernel_rfl)
  · exact (show Tryd.prog.wantsStandIn 9 = false by kernel_rfl)
/-- The card. -/
theorem proved : Rows.NumBackCardSaid :=
  Claim7.holds_tied_plain_at .later [] _ _ _ _ said (fun _ h => by cases h) (by kernel_rfl) (fun _ h => by cases h) numBack_row_tie rfl ⟨rfl, rfl⟩ (by kernel_rfl) rfl plain (by kernel_rfl)
#print axioms proved
end Go.Proofs.YtjipompbpnebjaaDoor.numBack
