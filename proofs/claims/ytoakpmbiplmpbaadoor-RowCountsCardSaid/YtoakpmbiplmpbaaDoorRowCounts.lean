/-
  Proved: whatever length and places are handed in, RowCounts returns true, and the places read as they did. Conditions: the library's table of bit positions holds what its own text lays (the card ties it).
-/
import Derived.Test.YtoakpmbiplmpbaaDoorRowDoor
namespace Go.Proofs.YtoakpmbiplmpbaaDoor.rowCounts
open Go.ChangeShapes Go.WideShapes Go.ChangeAt Go.RowKit Base Bits
theorem or_bits {N A B : Nat} (hB : B < 2 ^ N) (i : Nat) : (orV N A B).testBit i = (A.testBit i || B.testBit i) := by
  rw [orV_testBit]
  by_cases h : i < N
  · rw [decide_eq_true h, Bool.true_and]
  · rw [high_bit hB (by omega), Bool.and_false]
theorem counts {N A B : Nat} (hB : B < 2 ^ N) : pc N (orV N A B) + pc N (A &&& B) = pc N A + pc N B ∧ pc N (minusV A B) + pc N (A &&& B) = pc N A :=
  ⟨pc_or_and N (or_bits hB) (fun i => by rw [Nat.testBit_and]), pc_minus_and N (A := A) (B := B) (fun i => by rw [minusV_testBit]) (fun i => by rw [Nat.testBit_and])⟩
theorem again {N A B : Nat} (hA : A < 2 ^ N) : orV N (minusV A B) (A &&& B) = A := by
  apply Nat.eq_of_testBit_eq
  intro i
  rw [or_bits (andV_lt hA), minusV_testBit, Nat.testBit_and]
  cases A.testBit i <;> cases B.testBit i <;> rfl
/-- What holds between the deeds: five rows stand, and what was there is as it was. -/
def CI (w0 w : World) (N ba ga A bb gb B b1 g1 V1 b2 g2 V2 b3 g3 V3 : Nat) : Prop :=
  Below w0.heap.size w0 w ∧ RowAt w ba ga N A ∧ RowAt w bb gb N B ∧ RowAt w b1 g1 N V1 ∧ RowAt w b2 g2 N V2 ∧ RowAt w b3 g3 N V3
section
variable {w0 w w1 : World} {N ba ga A bb gb B b1 g1 V1 b2 g2 V2 b3 g3 V3 V : Nat}
theorem CI.step (h : CI w0 w N ba ga A bb gb B b1 g1 V1 b2 g2 V2 b3 g3 V3) (hb : Below w.heap.size w w1) : CI w0 w1 N ba ga A bb gb B b1 g1 V1 b2 g2 V2 b3 g3 V3 :=
  ⟨h.1.trans (hb.mono h.1.size), h.2.1.below hb, h.2.2.1.below hb, h.2.2.2.1.below hb, h.2.2.2.2.1.below hb, h.2.2.2.2.2.below hb⟩
theorem CI.turn1 (h : CI w0 w N ba ga A bb gb B b1 g1 V1 b2 g2 V2 b3 g3 V3) (hr : RowAt w1 b1 g1 N V) (hg : w.grownBy w1 (some g1)) (hw : w0.heap.size ≤ g1) (hn : ba ≠ g1 ∧ ga ≠ g1 ∧ bb ≠ g1 ∧ gb ≠ g1 ∧ b2 ≠ g1 ∧ g2 ≠ g1 ∧ b3 ≠ g1 ∧ g3 ≠ g1) : CI w0 w1 N ba ga A bb gb B b1 g1 V b2 g2 V2 b3 g3 V3 :=
  ⟨h.1.grown hg h.1.size (by intro k hk; cases hk; exact hw), h.2.1.grown hg hn.1 hn.2.1, h.2.2.1.grown hg hn.2.2.1 hn.2.2.2.1, hr, h.2.2.2.2.1.grown hg hn.2.2.2.2.1 hn.2.2.2.2.2.1, h.2.2.2.2.2.grown hg hn.2.2.2.2.2.2.1 hn.2.2.2.2.2.2.2⟩
theorem CI.turn2 (h : CI w0 w N ba ga A bb gb B b1 g1 V1 b2 g2 V2 b3 g3 V3) (hr : RowAt w1 b2 g2 N V) (hg : w.grownBy w1 (some g2)) (hw : w0.heap.size ≤ g2) (hn : ba ≠ g2 ∧ ga ≠ g2 ∧ bb ≠ g2 ∧ gb ≠ g2 ∧ b1 ≠ g2 ∧ g1 ≠ g2 ∧ b3 ≠ g2 ∧ g3 ≠ g2) : CI w0 w1 N ba ga A bb gb B b1 g1 V1 b2 g2 V b3 g3 V3 :=
  ⟨h.1.grown hg h.1.size (by intro k hk; cases hk; exact hw), h.2.1.grown hg hn.1 hn.2.1, h.2.2.1.grown hg hn.2.2.1 hn.2.2.2.1, h.2.2.2.1.grown hg hn.2.2.2.2.1 hn.2.2.2.2.2.1, hr, h.2.2.2.2.2.grown hg hn.2.2.2.2.2.2.1 hn.2.2.2.2.2.2.2⟩
theorem CI.turn3 (h : CI w0 w N ba ga A bb gb B b1 g1 V1 b2 g2 V2 b3 g3 V3) (hr : RowAt w1 b3 g3 N V) (hg : w.grownBy w1 (some g3)) (hw : w0.heap.size ≤ g3) (hn : ba ≠ g3 ∧ ga ≠ g3 ∧ bb ≠ g3 ∧ gb ≠ g3 ∧ b1 ≠ g3 ∧ g1 ≠ g3 ∧ b2 ≠ g3 ∧ g2 ≠ g3) : CI w0 w1 N ba ga A bb gb B b1 g1 V1 b2 g2 V2 b3 g3 V :=
  ⟨h.1.grown hg h.1.size (by intro k hk; cases hk; exact hw), h.2.1.grown hg hn.1 hn.2.1, h.2.2.1.grown hg hn.2.2.1 hn.2.2.2.1, h.2.2.2.1.grown hg hn.2.2.2.2.1 hn.2.2.2.2.2.1, h.2.2.2.2.1.grown hg hn.2.2.2.2.2.2.1 hn.2.2.2.2.2.2.2, hr⟩
end
set_option maxHeartbeats 4000000 in
set_option maxRecDepth 100000 in
theorem walk (n : Int) (v u : Value) (ys zs : List Int) (w : World) (hy : Ints 0 w v ys) (hi : Ints 0 w u zs) (hT : TabAt 0 Lib.deBruijn64tab w) :
    Calls Tryd.prog 4 #[.int .i64 n, v, u] w fun e w' => e = .returned (.bool true) ∧ Below w.heap.size w w' := by
  have HL := Lib.hid (lives_any w hT (table_lt hT))
  have HY := Lib.hid hy
  have HI := Lib.hid hi
  obtain ⟨p, c, rfl, hl, _⟩ := hy.open_
  obtain ⟨p', c', rfl, hl', _⟩ := hi.open_
  clear hT hy hi
  by_cases h1 : 200 < ys.length
  · clear HY HI
    go_enter Tryd.func4, Tryd.ntmps4
    go_wp2_with fail
    refine (HL.out).mono ?_
    rintro e w1 ⟨rfl, hb⟩
    go_wp2
    go_ret
    exact ⟨rfl, hb⟩
  by_cases h2 : 200 < zs.length
  · clear HY HI
    go_enter Tryd.func4, Tryd.ntmps4
    go_wp2_with fail
    refine (HL.out).mono ?_
    rintro e w1 ⟨rfl, hb⟩
    go_wp2
    go_ret
    exact ⟨rfl, hb⟩
  have h3 : ys.length ≤ 200 := by omega
  have h4 : zs.length ≤ 200 := by omega
  clear h1 h2
  go_enter Tryd.func4, Tryd.ntmps4
  go_wp2_with fail
  refine (HL.out).mono ?_
  rintro e w1 ⟨rfl, hb⟩
  have HO := Lib.hid (of_row n w1 (HY.out.below hb))
  have HI1 := Lib.hid (HI.out.below hb)
  have B1 := Lib.hid hb
  clear hb HL HY HI
  generalize ofV (Bits.rowLen n) ys = A at HO
  go_wp2_with fail
  refine (HO.out).mono ?_
  rintro e w2 ⟨ba, ga, rfl, hr, hb, _, _⟩
  have HO := Lib.hid (of_row n w2 (HI1.out.below hb))
  generalize ofV (Bits.rowLen n) zs = B at HO
  generalize Bits.rowLen n = N at HO hr
  have R2 := Lib.hid hr
  have B2 := Lib.hid (B1.out.trans (hb.mono B1.out.size))
  have hz1 := heap_lt hr.1
  have hz2 := heap_lt hr.2.1
  clear hb hr B1 HI1
  go_wp2_with fail
  refine (HO.out).mono ?_
  rintro e w3 ⟨bb, gb, rfl, hr, hb, h5, h6⟩
  have hA := R2.out.2.2.2
  have hB := hr.2.2.2
  have hN := hr.2.2.1
  have CT := Lib.hid (counts (N := N) (A := A) (B := B) hB)
  have AG := Lib.hid (again (N := N) (A := A) (B := B) hA)
  have RA := Lib.hid (R2.out.below hb)
  have RB := Lib.hid hr
  have B3 := Lib.hid (B2.out.trans (hb.mono B2.out.size))
  have hz3 := heap_lt hr.1
  have hz4 := heap_lt hr.2.1
  have hs2 := B2.out.size
  have hs3 := hb.size
  clear hb hr hA hB R2 B2 HO
  go_wp2_with fail
  refine (copy_row ba ga N A _ RA.out).mono ?_
  rintro e w4 ⟨y, z, rfl, _, hb, _, _⟩
  have RA4 := Lib.hid (RA.out.below hb)
  have RB4 := Lib.hid (RB.out.below hb)
  have B4 := Lib.hid (B3.out.trans (hb.mono B3.out.size))
  have hs4 := hb.size
  clear hb RA RB B3
  go_wp2_with fail
  refine (copy_row ba ga N A _ RA4.out).mono ?_
  rintro e w5 ⟨b1, g1, rfl, hr, hb, h7, h8⟩
  have RA5 := Lib.hid (RA4.out.below hb)
  have RB5 := Lib.hid (RB4.out.below hb)
  have R1 := Lib.hid hr
  have B5 := Lib.hid (B4.out.trans (hb.mono B4.out.size))
  have hs5 := hb.size
  have hz5 := heap_lt hr.1
  have hz6 := heap_lt hr.2.1
  have hq1 := hr.ne_
  clear hb hr RA4 RB4 B4
  go_wp2_with fail
  refine (copy_row ba ga N A _ RA5.out).mono ?_
  rintro e w6 ⟨b2, g2, rfl, hr, hb, h9, h10⟩
  have RA6 := Lib.hid (RA5.out.below hb)
  have RB6 := Lib.hid (RB5.out.below hb)
  have R16 := Lib.hid (R1.out.below hb)
  have R2 := Lib.hid hr
  have B6 := Lib.hid (B5.out.trans (hb.mono B5.out.size))
  have hs6 := hb.size
  have hz7 := heap_lt hr.1
  have hz8 := heap_lt hr.2.1
  have hq2 := hr.ne_
  clear hb hr RA5 RB5 R1 B5
  go_wp2_with fail
  refine (copy_row ba ga N A _ RA6.out).mono ?_
  rintro e w7 ⟨b3, g3, rfl, hr, hb, h11, h12⟩
  have hq3 := hr.ne_
  have I7 : Hid (CI w w7 N ba ga A bb gb B b1 g1 A b2 g2 A b3 g3 A) := Lib.hid ⟨B6.out.trans (hb.mono B6.out.size), RA6.out.below hb, RB6.out.below hb, R16.out.below hb, R2.out.below hb, hr⟩
  have N1 : Hid (w.heap.size ≤ g1 ∧ ba ≠ g1 ∧ ga ≠ g1 ∧ bb ≠ g1 ∧ gb ≠ g1 ∧ b2 ≠ g1 ∧ g2 ≠ g1 ∧ b3 ≠ g1 ∧ g3 ≠ g1) := Lib.hid (by omega)
  have N2 : Hid (w.heap.size ≤ g2 ∧ ba ≠ g2 ∧ ga ≠ g2 ∧ bb ≠ g2 ∧ gb ≠ g2 ∧ b1 ≠ g2 ∧ g1 ≠ g2 ∧ b3 ≠ g2 ∧ g3 ≠ g2) := Lib.hid (by omega)
  have N3 : Hid (w.heap.size ≤ g3 ∧ ba ≠ g3 ∧ ga ≠ g3 ∧ bb ≠ g3 ∧ gb ≠ g3 ∧ b1 ≠ g3 ∧ g1 ≠ g3 ∧ b2 ≠ g3 ∧ g2 ≠ g3) := Lib.hid (by omega)
  clear hb hr RA6 RB6 R16 R2 B6 hs2 hs3 hs4 hs5 hs6 hz1 hz2 hz3 hz4 hz5 hz6 hz7 hz8 h5 h6 h7 h8 h9 h10 h11 h12 hq1 hq2 hq3
  go_wp2_with fail
  refine (or_row b1 g1 N A bb gb N B _ I7.out.2.2.2.1 I7.out.2.2.1 ⟨N1.out.2.2.2.1, N1.out.2.2.2.2.1⟩).mono ?_
  rintro e w8 ⟨rfl, hr, hg⟩
  have I8 := Lib.hid (I7.out.turn1 hr hg N1.out.1 N1.out.2)
  clear hr hg I7
  go_wp2_with fail
  refine (and_row b2 g2 N A bb gb N B _ I8.out.2.2.2.2.1 I8.out.2.2.1 ⟨N2.out.2.2.2.1, N2.out.2.2.2.2.1⟩).mono ?_
  rintro e w9 ⟨rfl, hr, hg⟩
  have I9 := Lib.hid (I8.out.turn2 hr hg N2.out.1 N2.out.2)
  clear hr hg I8
  go_wp2_with fail
  refine (minus_row b3 g3 N A bb gb N B _ I9.out.2.2.2.2.2 I9.out.2.2.1 ⟨N3.out.2.2.2.1, N3.out.2.2.2.2.1⟩).mono ?_
  rintro e w10 ⟨rfl, hr, hg⟩
  have I10 := Lib.hid (I9.out.turn3 hr hg N3.out.1 N3.out.2)
  clear hr hg I9
  have C1 := Lib.hid (count_any b1 g1 N (orV N A B) _ I10.out.2.2.2.1)
  have C2 := Lib.hid (count_any b2 g2 N (A &&& B) _ I10.out.2.2.2.2.1)
  have C3 := Lib.hid (count_any b3 g3 N (minusV A B) _ I10.out.2.2.2.2.2)
  have CA := Lib.hid (count_any ba ga N A _ I10.out.2.1)
  have CB := Lib.hid (count_any bb gb N B _ I10.out.2.2.1)
  obtain ⟨k1, k2⟩ := CT.out
  have k3 := pc_le N (orV N A B)
  have k4 := pc_le N (A &&& B)
  have k5 := pc_le N (minusV A B)
  have k6 := pc_le N A
  have k7 := pc_le N B
  clear CT
  generalize pc N (orV N A B) = c1 at C1 k1 k2 k3
  generalize pc N (A &&& B) = c2 at C2 k1 k2 k4
  generalize pc N (minusV A B) = c3 at C3 k1 k2 k5
  generalize pc N A = c4 at CA k1 k2 k6
  generalize pc N B = c5 at CB k1 k2 k7
  go_wp2_with fail
  refine (C1.out).mono ?_
  rintro e x ⟨rfl, rfl⟩
  go_wp2_with fail
  refine (C2.out).mono ?_
  rintro e x ⟨rfl, rfl⟩
  go_wp2_with fail
  refine (CA.out).mono ?_
  rintro e x ⟨rfl, rfl⟩
  go_wp2_with fail
  refine (CB.out).mono ?_
  rintro e x ⟨rfl, rfl⟩
  have e1 : ((c1 : Int) + (c2 : Int) != (c4 : Int) + (c5 : Int)) = false := by rw [bne_eq_false_iff_eq]; omega
  have e2 : ((c3 : Int) + (c2 : Int) != (c4 : Int)) = false := by rw [bne_eq_false_iff_eq]; omega
  go_wp2_with fail
  refine (C3.out).mono ?_
  rintro e x ⟨rfl, rfl⟩
  go_wp2_with fail
  refine (C2.out).mono ?_
  rintro e x ⟨rfl, rfl⟩
  go_wp2_with fail
  refine (CA.out).mono ?_
  rintro e x ⟨rfl, rfl⟩
  go_wp2_with fail
  refine (or_row b3 g3 N (minusV A B) b2 g2 N (A &&& B) _ I10.out.2.2.2.2.2 I10.out.2.2.2.2.1 ⟨N3.out.2.2.2.2.2.2.2.1, N3.out.2.2.2.2.2.2.2.2⟩).mono ?_
  rintro e w11 ⟨rfl, hr, hg⟩
  rw [AG.out] at hr
  have I11 := Lib.hid (I10.out.turn3 hr hg N3.out.1 N3.out.2)
  clear hr hg I10
  go_wp2_with fail
  refine (same_row I11.out.2.2.2.2.2 I11.out.2.1 (decide_eq_true rfl)).mono ?_
  rintro e w12 ⟨rfl, hb⟩
  have I12 := Lib.hid (I11.out.step hb)
  clear hb I11
  go_wp2
  go_ret
  exact ⟨rfl, I12.out.1⟩
set_option maxRecDepth 100000 in
/-- What the walk gives, for every argument and every world that holds the table. -/
theorem contract (H : Type) (enc : TypeId × Value → H) (W : World) (base : Nat) (args : Array Value) (ds gs : List (DataW H)) (before : List MemPlace)
    (hval : ∀ (j : Nat) t v, Tryd.f4.params[j]? = some t → args[j]? = some v → Value.okWide Tryd.prog W .any base t v)
    (hW : DataW.Whole enc Tryd.prog Tryd.f4.params.toList Rows.rowCountsSpec.vars false W args.toList ds gs before) (hL : laidMetH Tryd.prog Rows.rowCountsRow.laid W) :
    Calls Tryd.prog 4 args W fun e W' => ∃ v, e = .returned v ∧ Rows.rowCountsSpec.post enc Tryd.prog Tryd.f4 false true false false W args v W' := by
  have hW' := hW
  obtain ⟨p, q, hA0, hV, rfl, hfz, hnd⟩ := hW
  have hA : DataW.TrodAll enc Tryd.prog W 0 (fun _ => true) true Tryd.f4.params.toList args.toList ds p := hA0
  rw [Tryd.params4] at hA hval
  obtain ⟨v0, vs0, d0, ds0, p0, q0, hargs, rfl, rfl, r0, r0'⟩ := trodAll_cons hA
  obtain ⟨v1, vs1, d1, ds1, p1, q1, rfl, rfl, rfl, r1, r1'⟩ := trodAll_cons r0'
  obtain ⟨v2, vs2, d2, ds2, p2, q2, rfl, rfl, rfl, r2, r2'⟩ := trodAll_cons r1'
  obtain ⟨rfl, rfl, rfl⟩ := trodAll_nil r2'
  obtain rfl : args = #[v0, v1, v2] := by cases args; simp_all
  obtain ⟨rfl, rfl⟩ := trodVars_none hV
  have hlt : ∀ x ∈ p0 ++ (p1 ++ (p2 ++ [])), x.block < W.heap.size := fun x hx => by simpa using hW'.lt x (by simpa using hx)
  have back0 : ∀ W', Below W.heap.size W W' → DataW.Trod enc Tryd.prog W' 0 (fun b => decide (b < W.heap.size)) true 3 v0 d0 p0 :=
    fun W' hn => Below.trod laidOut (by kernel_rfl) (of_decide_eq_true (by kernel_rfl)) r0 hn fun x hx => hlt x (by simp [hx])
  have back1 : ∀ W', Below W.heap.size W W' → DataW.Trod enc Tryd.prog W' 0 (fun b => decide (b < W.heap.size)) true 26 v1 d1 p1 :=
    fun W' hn => Below.trod laidOut (by kernel_rfl) (of_decide_eq_true (by kernel_rfl)) r1 hn fun x hx => hlt x (by simp [hx])
  have back2 : ∀ W', Below W.heap.size W W' → DataW.Trod enc Tryd.prog W' 0 (fun b => decide (b < W.heap.size)) true 26 v2 d2 p2 :=
    fun W' hn => Below.trod laidOut (by kernel_rfl) (of_decide_eq_true (by kernel_rfl)) r2 hn fun x hx => hlt x (by simp [hx])
  obtain ⟨n, rfl, _, _, _⟩ := open_int Tryd.underlying3 (hval 0 3 v0 rfl rfl) r0
  obtain ⟨ys, hys⟩ := open_list (hval 1 26 v1 rfl rfl) r1
  obtain ⟨zs, hzs⟩ := open_list (hval 2 26 v2 rfl rfl) r2
  refine (walk n v1 v2 ys zs W hys hzs (table hL)).mono fun e W' ⟨he, hb⟩ => ?_
  subst he
  exact ⟨_, rfl, _, _, _, [], _, [], hW', trodAll_cons_mk (shut_bool Tryd.underlying4 _) trodAll_mk0, trodAll_cons_mk (back0 W' hb) (trodAll_cons_mk (back1 W' hb) (trodAll_cons_mk (back2 W' hb) trodAll_mk0)), rfl, hb.frame _, fun h => by cases h⟩
/-- A world for the witness: the settled one, the table holding what its text lays. -/
noncomputable def laidWorld (os : Os) : World :=
  { World.holding Tryd.prog os ⟨#[], #[], []⟩ with heap := (World.holding Tryd.prog os ⟨#[], #[], []⟩).heap.modify 0 fun
      | .cells _ t frozen => .cells (Lib.deBruijn64tab.map fun (z : Nat) => Value.int .u8 (z : Int)).toArray t frozen
      | o => o }
def wargs : Array Value := #[.int .i64 0, .slice none 0 0, .slice none 0 0]
set_option maxRecDepth 100000 in
theorem laid_met (os : Os) : laidMet Tryd.prog Rows.rowCountsRow.laid ((laidWorld os).forCall (fun _ _ => 0) ⟨#[], wargs, []⟩).memory :=
  laidMet_of_run' 8 (by kernel_rfl) (by kernel_rfl)
set_option maxRecDepth 100000 in
theorem reads (os : Os) {H : Type} (enc : TypeId × Value → H) : ∃ places, DataW.whole enc Tryd.prog ((laidWorld os).forCall (fun _ _ => 0) ⟨#[], wargs, []⟩).memory Tryd.f4.params.toList Rows.rowCountsSpec.vars false wargs.toList 8 = some ([.lit (.int .i64 0), .nil, .nil], [], places) :=
  ⟨[], by kernel_rfl⟩
set_option maxRecDepth 100000 in
theorem lifted (os : Os) (started : os.Started) (H : Type) (enc : TypeId × Value → H) (F : Stop.Interp) :
    ReturnsInHanded {} Tryd.checked os 4 .any ((OpenSpec.ofChange Rows.rowCountsSpec).preRow enc Tryd.prog Tryd.f4 Rows.rowCountsRow.domain false Rows.rowCountsRow.laid) (((OpenSpec.ofChange Rows.rowCountsSpec).at F).post enc Tryd.prog Tryd.f4 false true false false) := by
  obtain ⟨places, hx⟩ := reads os enc
  refine returnsInHanded_of_row (C := Tryd.checked) (s := OpenSpec.ofChange Rows.rowCountsSpec) own started (by kernel_rfl) Tryd.func4
    (witness_row_at (enc := enc) (C := Tryd.checked) false (laidWorld os) wargs rfl (by kernel_rfl) (by kernel_rfl) (by kernel_rfl)
      (OpenSpec.preRow_of_cond 8 hx (by kernel_rfl) (fun k hk => by cases hk) (by kernel_rfl) (laid_met os))) ?_
  intro W base args ds gs before hval hW _ _ _ hL _ _
  exact contract H enc W base args ds gs before hval hW hL
set_option maxRecDepth 100000 in
theorem said : Rows.RowCountsSaid :=
  OpenClaim.holds_of_cond 4 Tryd.f4 rfl rfl rfl rfl rfl rfl rfl ⟨rfl, rfl, rfl, rfl, rfl⟩ rfl rfl rfl rfl rfl (by kernel_rfl) Tryd.func4 (by kernel_rfl)
    (of_decide_eq_true (by kernel_rfl)) (by unfold Func.isWrapper; first | (rw [if_pos (by decide +kernel)]; kernel_rfl) | (rw [if_neg (by decide +kernel)]; exact ⟨rfl, rfl⟩))
    (fun os started H enc _ F => by rw [OpenClaim.pre_eq_preRow]; exact lifted os started H enc F)
set_option maxRecDepth 100000 in
/-- No parameter wants a stand-in; the program's own looks are off. -/
theorem plain (f : FuncId) (fn : Func) (hf : Tryd.pinned.checked.prog.funcNamed "tenter/tenterlaw01.RowCounts" = some f) (hfn : Tryd.pinned.checked.prog.funcs[f]? = some fn) :
    false = Tryd.pinned.checked.prog.looks [] ∧ ∀ (j : Nat) t, fn.params[j]? = some t → Tryd.pinned.checked.prog.wantsStandIn t = false := by
  obtain rfl : f = 4 := Option.some.inj ((show Tryd.prog.funcNamed "tenter/tenterlaw01.RowCounts" = some 4 by kernel_rfl).symm.trans hf) |>.symm
  obtain rfl : fn = Tryd.f4 := (Option.some.inj (Tryd.func4.symm.trans hfn)).symm
  refine ⟨by kernel_rfl, fun j t ht => ?_⟩
  rw [Tryd.params4] at ht
  have hm : t = 3 ∨ t = 26 := by have := Array.mem_of_getElem? ht; simp at this; omega
  rcases hm with rfl | rfl
  · exact (show Tryd.prog.wantsStandIn 3 = false by kernel_rfl)
  · exact (show Tryd.prog.wantsStandIn 26 = false by kernel_rfl)
set_option maxRecDepth 100000 in
/-- The card. -/
theorem proved : Rows.RowCountsCardSaid :=
  Claim7.holds_tied_plain_at .later [] _ _ _ _ said (fun _ h => by cases h) (by kernel_rfl) (fun _ h => by cases h) rowCounts_row_tie rfl ⟨rfl, rfl⟩ (by kernel_rfl) rfl plain (by kernel_rfl)
#print axioms proved
end Go.Proofs.YtoakpmbiplmpbaaDoor.rowCounts
