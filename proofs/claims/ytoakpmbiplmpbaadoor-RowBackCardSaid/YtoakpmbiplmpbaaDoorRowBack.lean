/-
  Proved: whatever length, shift and places are handed in, RowBack returns true, and the places read as they did. Conditions: the library's table of bit positions holds what its own text lays (the card ties it).
-/
import Derived.Test.YtoakpmbiplmpbaaDoorRowDoor
namespace Go.Proofs.YtoakpmbiplmpbaaDoor.rowBack
open Go.ChangeShapes Go.WideShapes Go.ChangeAt Go.RowKit Base Bits
theorem intsOf_get {n V j : Nat} (h : j < (intsOf n V).length) : ∃ m : Nat, (intsOf n V).getD j 0 = (m : Int) ∧ m < n ∧ V.testBit m = true := by
  unfold intsOf at h ⊢
  rw [List.length_map] at h
  refine ⟨(placesTo V n)[j], by simp [List.getD_eq_getElem?_getD, h], ?_⟩
  have hm := List.getElem_mem h
  unfold placesTo at hm
  rw [List.mem_filter, List.mem_range] at hm
  exact hm
theorem back_bit {N A k : Nat} (hA : A < 2 ^ N) (i : Nat) : (movV N (movV N A k) (-(k : Int))).testBit i = (decide (i + k < N) && A.testBit i) := by
  rw [movV_testBit (movV_lt hA), show ((i : Int) - -(k : Int)) = ((i + k : Nat) : Int) by omega]
  unfold bitAt
  rw [Int.toNat_natCast, movV_testBit hA, show (((i + k : Nat) : Int) - (k : Int)) = ((i : Nat) : Int) by omega]
  unfold bitAt
  rw [Int.toNat_natCast]
  by_cases h : i + k < N
  · rw [decide_eq_true h, decide_eq_true (by omega : i < N), decide_eq_true (by omega), decide_eq_true (by omega)]
    rfl
  · rw [decide_eq_false h]
    simp
theorem back_has {N A k m : Nat} (hA : A < 2 ^ N) (hm : m < N) (hb : A.testBit m = true) : hasI N (movV N (movV N A k) (-(k : Int))) (m : Int) = decide ((m : Int) < (N : Int) - (k : Int)) := by
  unfold hasI
  rw [Int.toNat_natCast, back_bit hA, hb, decide_eq_true (by omega : (0 : Int) ≤ m ∧ (m : Int) < N), Bool.true_and, Bool.and_true, Bool.eq_iff_iff, decide_eq_true_iff, decide_eq_true_iff]
  omega
theorem back_count {N A k : Nat} (hA : A < 2 ^ N) : pc N (movV N (movV N A k) (-(k : Int))) ≤ pc N A :=
  pc_mono N fun i h => by
    rw [back_bit hA] at h
    cases hh : A.testBit i
    · rw [hh, Bool.and_false] at h; cases h
    · rfl
theorem back_none {N A k : Nat} (hA : A < 2 ^ N) (hk : N ≤ k) : pc N (movV N (movV N A k) (-(k : Int))) = 0 := by
  have h : movV N (movV N A k) (-(k : Int)) = 0 := by
    apply Nat.eq_of_testBit_eq
    intro i
    rw [back_bit hA, decide_eq_false (by omega), Nat.zero_testBit]
    rfl
  rw [h, pc_zero]
/-- What holds between the questions: the row stands, the table, and what was there is as it was. -/
def RI (w0 w : World) (b g N A : Nat) : Prop := Below w0.heap.size w0 w ∧ RowAt w b g N A ∧ TabAt 0 Lib.deBruijn64tab w ∧ 0 < w.heap.size
theorem RI.step {w0 w w1 : World} {b g N A : Nat} (h : RI w0 w b g N A) (hb : Below w.heap.size w w1) : RI w0 w1 b g N A :=
  ⟨h.1.trans (hb.mono h.1.size), h.2.1.below hb, tab_below h.2.2.1 h.2.2.2 hb, Nat.lt_of_lt_of_le h.2.2.2 hb.size⟩
set_option maxHeartbeats 4000000 in
set_option maxRecDepth 100000 in
theorem walk (n k : Int) (v : Value) (zs : List Int) (w : World) (hi : Ints 0 w v zs) (hT : TabAt 0 Lib.deBruijn64tab w) :
    Calls Tryd.prog 5 #[.int .i64 n, .int .i64 k, v] w fun e w' => e = .returned (.bool true) ∧ Below w.heap.size w w' := by
  have hg := table_lt hT
  have HL := Lib.hid (lives_any w hT hg)
  have HT := Lib.hid hT
  have HG := Lib.hid hg
  have HI := Lib.hid hi
  obtain ⟨p, c, rfl, hl, _⟩ := hi.open_
  clear hT hg hi
  by_cases h1 : 200 < zs.length
  · clear HT HG HI
    go_enter Tryd.func5, Tryd.ntmps5
    go_wp2_with fail
    refine (HL.out).mono ?_
    rintro e w1 ⟨rfl, hb⟩
    go_wp2
    go_ret
    exact ⟨rfl, hb⟩
  by_cases h2 : k < 0
  · clear HT HG HI
    go_enter Tryd.func5, Tryd.ntmps5
    go_wp2_with fail
    refine (HL.out).mono ?_
    rintro e w1 ⟨rfl, hb⟩
    go_wp2
    go_ret
    exact ⟨rfl, hb⟩
  by_cases h3 : 100000 < k
  · clear HT HG HI
    go_enter Tryd.func5, Tryd.ntmps5
    go_wp2_with fail
    refine (HL.out).mono ?_
    rintro e w1 ⟨rfl, hb⟩
    go_wp2
    go_ret
    exact ⟨rfl, hb⟩
  obtain ⟨k, rfl⟩ := Int.eq_ofNat_of_zero_le (show 0 ≤ k by omega)
  have h4 : k ≤ 100000 := by omega
  have h5 : zs.length ≤ 200 := by omega
  have hneg : IntKind.i64.wrap (-(k : Int)) = -(k : Int) := by rw [IntKind.wrap_i64]; omega
  clear h1 h2 h3
  go_enter Tryd.func5, Tryd.ntmps5
  go_wp2_with fail
  refine (HL.out).mono ?_
  rintro e w1 ⟨rfl, hb⟩
  have HO := Lib.hid (of_row n w1 (HI.out.below hb))
  have B1 := Lib.hid hb
  have T1 := Lib.hid (tab_below HT.out HG.out hb)
  have G1 := Lib.hid (Nat.lt_of_lt_of_le HG.out hb.size)
  clear hb HL HT HG HI
  generalize Bits.rowLen n = N at HO
  generalize ofV N zs = A at HO
  go_wp2_with fail
  refine (HO.out).mono ?_
  rintro e w2 ⟨b, g, rfl, hr, hb, _, _⟩
  have hA := hr.2.2.2
  have hN := hr.2.2.1
  have HAS : Hid (∀ m, m < N → A.testBit m = true → hasI N (movV N (movV N A k) (-(k : Int))) (m : Int) = decide ((m : Int) < (N : Int) - (k : Int))) := Lib.hid fun m => back_has hA
  have HC := Lib.hid (back_count (k := k) hA)
  have HZ : Hid (N ≤ k → pc N (movV N (movV N A k) (-(k : Int))) = 0) := Lib.hid (back_none hA)
  have I2 : Hid (RI w w2 b g N A) := Lib.hid ⟨B1.out.trans (hb.mono B1.out.size), hr, tab_below T1.out G1.out hb, Nat.lt_of_lt_of_le G1.out hb.size⟩
  clear hb hr HO B1 T1 G1 hA
  go_wp2_with fail
  refine (moved_row b g N A k _ I2.out.2.1).mono ?_
  rintro e w3 ⟨y, z, rfl, _, hb, _, _⟩
  have I3 := Lib.hid (I2.out.step hb)
  clear hb I2
  go_wp2_with fail
  refine (moved_row b g N A k _ I3.out.2.1).mono ?_
  rintro e w4 ⟨y1, z1, rfl, hr, hb, _, _⟩
  have I4 := Lib.hid (I3.out.step hb)
  have HM := Lib.hid hr
  clear hr hb I3
  go_wp2_with fail
  refine (moved_row y1 z1 N (movV N A k) (-(k : Int)) _ HM.out).mono ?_
  rintro e w5 ⟨y2, z2, rfl, _, hb, _, _⟩
  have I5 := Lib.hid (I4.out.step hb)
  clear hb I4 HM
  go_wp2_with fail
  refine (moved_row b g N A k _ I5.out.2.1).mono ?_
  rintro e w6 ⟨y3, z3, rfl, hr, hb, _, _⟩
  have I6 := Lib.hid (I5.out.step hb)
  have HM := Lib.hid hr
  clear hr hb I5
  go_wp2_with fail
  refine (moved_row y3 z3 N (movV N A k) (-(k : Int)) _ HM.out).mono ?_
  rintro e w7 ⟨bb, gb, rfl, hr, hb, _, _⟩
  have I7 := Lib.hid (I6.out.step hb)
  have HB := Lib.hid hr
  clear hr hb I6 HM
  generalize movV N (movV N A k) (-(k : Int)) = B at HAS HC HZ HB
  go_wp2_with fail
  refine (list_ints b g N A _ I7.out.2.1 I7.out.2.2.1 I7.out.2.2.2).mono ?_
  rintro e w8 ⟨⟨lv, rfl, hv⟩, hb⟩
  have I8 := Lib.hid (I7.out.step hb)
  have HB8 := Lib.hid (HB.out.below hb)
  obtain ⟨lp, lc, rfl, hll, hcells⟩ := hv.open_
  have HV := Lib.hid hcells
  have HX : Hid (∀ j, j < (intsOf N A).length → ∃ m : Nat, (intsOf N A).getD j 0 = (m : Int) ∧ m < N ∧ A.testBit m = true) := Lib.hid fun j hj => intsOf_get hj
  have hls := intsOf_len N A
  clear hv hb I7 HB hcells
  generalize intsOf N A = xs at HV HX hll hls
  go_wp2_with fail
  go_loopw [53] (fun s53 wr => ∃ j : Nat, s53 = .int .i64 j ∧ j ≤ xs.length ∧ wr = w8) (fun s53 _ => xs.length - (intOf s53).toNat)
  case atStart => exact ⟨0, rfl, Nat.zero_le _, rfl⟩
  case round =>
    obtain ⟨j, rfl, hj, rfl⟩ := hrel
    by_cases hlt : j < xs.length
    · obtain ⟨g', o', rfl, _, _, hcell⟩ := HV.out j hlt
      obtain ⟨m, hm, hmN, hmA⟩ := HX.out j hlt
      rw [hm] at hcell
      have HH : Hid (Calls Tryd.prog 25 #[.pointer (some ⟨bb, 0, none⟩), .int .i64 (m : Int)] wr fun e w' => e = .returned (.bool (decide ((m : Int) < (N : Int) - (k : Int)))) ∧ wr = w') := Lib.hid (by
        have h := has_any bb gb N B (m : Int) wr HB8.out
        rwa [HAS.out m hmN hmA] at h)
      have HLN := Lib.hid (len_any b g N A wr I8.out.2.1)
      clear hm hmA
      go_wp2_with fail
      refine (HH.out).mono ?_
      rintro e x ⟨rfl, rfl⟩
      go_wp2_with fail
      refine (HLN.out).mono ?_
      rintro e x ⟨rfl, rfl⟩
      by_cases hd : (m : Int) < (N : Int) - (k : Int)
      · rw [decide_eq_true hd]
        go_wp2_with fail
        go_roundw
        case rel => exact ⟨j + 1, by go_num, by omega, trivial⟩
        case measure => simp [intOf]; omega
      · rw [decide_eq_false hd]
        go_wp2_with fail
        go_roundw
        case rel => exact ⟨j + 1, by go_num, by omega, trivial⟩
        case measure => simp [intOf]; omega
    · clear HV HX
      have HCB := Lib.hid (count_any bb gb N B wr HB8.out)
      have HCA := Lib.hid (count_any b g N A wr I8.out.2.1)
      have HLB := Lib.hid (len_any bb gb N B wr HB8.out)
      have HLA := Lib.hid (len_any b g N A wr I8.out.2.1)
      have hc := HC.out
      go_wp2_with fail
      refine (HCB.out).mono ?_
      rintro e x ⟨rfl, rfl⟩
      go_wp2_with fail
      refine (HCA.out).mono ?_
      rintro e x ⟨rfl, rfl⟩
      go_wp2_with fail
      refine (HLB.out).mono ?_
      rintro e x ⟨rfl, rfl⟩
      go_wp2_with fail
      refine (HLA.out).mono ?_
      rintro e x ⟨rfl, rfl⟩
      go_wp2_with fail
      refine (HLA.out).mono ?_
      rintro e x ⟨rfl, rfl⟩
      by_cases hkN : k < N
      · go_wp2
        go_ret
        exact ⟨rfl, I8.out.1⟩
      · have hz := HZ.out (by omega)
        go_wp2_with fail
        refine (HCB.out).mono ?_
        rintro e x ⟨rfl, rfl⟩
        rw [hz]
        go_wp2
        go_ret
        exact ⟨rfl, I8.out.1⟩
set_option maxRecDepth 100000 in
/-- What the walk gives, for every argument and every world that holds the table. -/
theorem contract (H : Type) (enc : TypeId × Value → H) (W : World) (base : Nat) (args : Array Value) (ds gs : List (DataW H)) (before : List MemPlace)
    (hval : ∀ (j : Nat) t v, Tryd.f5.params[j]? = some t → args[j]? = some v → Value.okWide Tryd.prog W .any base t v)
    (hW : DataW.Whole enc Tryd.prog Tryd.f5.params.toList Rows.rowBackSpec.vars false W args.toList ds gs before) (hL : laidMetH Tryd.prog Rows.rowBackRow.laid W) :
    Calls Tryd.prog 5 args W fun e W' => ∃ v, e = .returned v ∧ Rows.rowBackSpec.post enc Tryd.prog Tryd.f5 false true false false W args v W' := by
  have hW' := hW
  obtain ⟨p, q, hA0, hV, rfl, hfz, hnd⟩ := hW
  have hA : DataW.TrodAll enc Tryd.prog W 0 (fun _ => true) true Tryd.f5.params.toList args.toList ds p := hA0
  rw [Tryd.params5] at hA hval
  obtain ⟨v0, vs0, d0, ds0, p0, q0, hargs, rfl, rfl, r0, r0'⟩ := trodAll_cons hA
  obtain ⟨v1, vs1, d1, ds1, p1, q1, rfl, rfl, rfl, r1, r1'⟩ := trodAll_cons r0'
  obtain ⟨v2, vs2, d2, ds2, p2, q2, rfl, rfl, rfl, r2, r2'⟩ := trodAll_cons r1'
  obtain ⟨rfl, rfl, rfl⟩ := trodAll_nil r2'
  obtain rfl : args = #[v0, v1, v2] := by cases args; simp_all
  obtain ⟨rfl, rfl⟩ := trodVars_none hV
  have hlt : ∀ x ∈ p0 ++ (p1 ++ (p2 ++ [])), x.block < W.heap.size := fun x hx => by simpa using hW'.lt x (by simpa using hx)
  have back0 : ∀ W', Below W.heap.size W W' → DataW.Trod enc Tryd.prog W' 0 (fun b => decide (b < W.heap.size)) true 3 v0 d0 p0 :=
    fun W' hn => Below.trod laidOut (by kernel_rfl) (of_decide_eq_true (by kernel_rfl)) r0 hn fun x hx => hlt x (by simp [hx])
  have back1 : ∀ W', Below W.heap.size W W' → DataW.Trod enc Tryd.prog W' 0 (fun b => decide (b < W.heap.size)) true 3 v1 d1 p1 :=
    fun W' hn => Below.trod laidOut (by kernel_rfl) (of_decide_eq_true (by kernel_rfl)) r1 hn fun x hx => hlt x (by simp [hx])
  have back2 : ∀ W', Below W.heap.size W W' → DataW.Trod enc Tryd.prog W' 0 (fun b => decide (b < W.heap.size)) true 26 v2 d2 p2 :=
    fun W' hn => Below.trod laidOut (by kernel_rfl) (of_decide_eq_true (by kernel_rfl)) r2 hn fun x hx => hlt x (by simp [hx])
  obtain ⟨n, rfl, _, _, _⟩ := open_int Tryd.underlying3 (hval 0 3 v0 rfl rfl) r0
  obtain ⟨k, rfl, _, _, _⟩ := open_int Tryd.underlying3 (hval 1 3 v1 rfl rfl) r1
  obtain ⟨zs, hzs⟩ := open_list (hval 2 26 v2 rfl rfl) r2
  refine (walk n k v2 zs W hzs (table hL)).mono fun e W' ⟨he, hb⟩ => ?_
  subst he
  exact ⟨_, rfl, _, _, _, [], _, [], hW', trodAll_cons_mk (shut_bool Tryd.underlying4 _) trodAll_mk0, trodAll_cons_mk (back0 W' hb) (trodAll_cons_mk (back1 W' hb) (trodAll_cons_mk (back2 W' hb) trodAll_mk0)), rfl, hb.frame _, fun h => by cases h⟩
/-- A world for the witness: the settled one, the table holding what its text lays. -/
noncomputable def laidWorld (os : Os) : World :=
  { World.holding Tryd.prog os ⟨#[], #[], []⟩ with heap := (World.holding Tryd.prog os ⟨#[], #[], []⟩).heap.modify 0 fun
      | .cells _ t frozen => .cells (Lib.deBruijn64tab.map fun (z : Nat) => Value.int .u8 (z : Int)).toArray t frozen
      | o => o }
def wargs : Array Value := #[.int .i64 0, .int .i64 0, .slice none 0 0]
set_option maxRecDepth 100000 in
theorem laid_met (os : Os) : laidMet Tryd.prog Rows.rowBackRow.laid ((laidWorld os).forCall (fun _ _ => 0) ⟨#[], wargs, []⟩).memory :=
  laidMet_of_run' 8 (by kernel_rfl) (by kernel_rfl)
set_option maxRecDepth 100000 in
theorem reads (os : Os) {H : Type} (enc : TypeId × Value → H) : ∃ places, DataW.whole enc Tryd.prog ((laidWorld os).forCall (fun _ _ => 0) ⟨#[], wargs, []⟩).memory Tryd.f5.params.toList Rows.rowBackSpec.vars false wargs.toList 8 = some ([.lit (.int .i64 0), .lit (.int .i64 0), .nil], [], places) :=
  ⟨[], by kernel_rfl⟩
set_option maxRecDepth 100000 in
theorem lifted (os : Os) (started : os.Started) (H : Type) (enc : TypeId × Value → H) (F : Stop.Interp) :
    ReturnsInHanded {} Tryd.checked os 5 .any ((OpenSpec.ofChange Rows.rowBackSpec).preRow enc Tryd.prog Tryd.f5 Rows.rowBackRow.domain false Rows.rowBackRow.laid) (((OpenSpec.ofChange Rows.rowBackSpec).at F).post enc Tryd.prog Tryd.f5 false true false false) := by
  obtain ⟨places, hx⟩ := reads os enc
  refine returnsInHanded_of_row (C := Tryd.checked) (s := OpenSpec.ofChange Rows.rowBackSpec) own started (by kernel_rfl) Tryd.func5
    (witness_row_at (enc := enc) (C := Tryd.checked) false (laidWorld os) wargs rfl (by kernel_rfl) (by kernel_rfl) (by kernel_rfl)
      (OpenSpec.preRow_of_cond 8 hx (by kernel_rfl) (fun k hk => by cases hk) (by kernel_rfl) (laid_met os))) ?_
  intro W base args ds gs before hval hW _ _ _ hL _ _
  exact contract H enc W base args ds gs before hval hW hL
set_option maxRecDepth 100000 in
theorem said : Rows.RowBackSaid :=
  OpenClaim.holds_of_cond 5 Tryd.f5 rfl rfl rfl rfl rfl rfl rfl ⟨rfl, rfl, rfl, rfl, rfl⟩ rfl rfl rfl rfl rfl (by kernel_rfl) Tryd.func5 (by kernel_rfl)
    (of_decide_eq_true (by kernel_rfl)) (by unfold Func.isWrapper; first | (rw [if_pos (by decide +kernel)]; kernel_rfl) | (rw [if_neg (by decide +kernel)]; exact ⟨rfl, rfl⟩))
    (fun os started H enc _ F => by rw [OpenClaim.pre_eq_preRow]; exact lifted os started H enc F)
set_option maxRecDepth 100000 in
/-- No parameter wants a stand-in; the program's own looks are off. -/
theorem plain (f : FuncId) (fn : Func) (hf : Tryd.pinned.checked.prog.funcNamed "tenter/tenterlaw01.RowBack" = some f) (hfn : Tryd.pinned.checked.prog.funcs[f]? = some fn) :
    false = Tryd.pinned.checked.prog.looks [] ∧ ∀ (j : Nat) t, fn.params[j]? = some t → Tryd.pinned.checked.prog.wantsStandIn t = false := by
  obtain rfl : f = 5 := Option.some.inj ((show Tryd.prog.funcNamed "tenter/tenterlaw01.RowBack" = some 5 by kernel_rfl).symm.trans hf) |>.symm
  obtain rfl : fn = Tryd.f5 := (Option.some.inj (Tryd.func5.symm.trans hfn)).symm
  refine ⟨by kernel_rfl, fun j t ht => ?_⟩
  rw [Tryd.params5] at ht
  have hm : t = 3 ∨ t = 26 := by have := Array.mem_of_getElem? ht; simp at this; omega
  rcases hm with rfl | rfl
  · exact (show Tryd.prog.wantsStandIn 3 = false by kernel_rfl)
  · exact (show Tryd.prog.wantsStandIn 26 = false by kernel_rfl)
set_option maxRecDepth 100000 in
/-- The card. -/
theorem proved : Rows.RowBackCardSaid :=
  Claim7.holds_tied_plain_at .later [] _ _ _ _ said (fun _ h => by cases h) (by kernel_rfl) (fun _ h => by cases h) rowBack_row_tie rfl ⟨rfl, rfl⟩ (by kernel_rfl) rfl plain (by kernel_rfl)
#print axioms proved
end Go.Proofs.YtoakpmbiplmpbaaDoor.rowBack
