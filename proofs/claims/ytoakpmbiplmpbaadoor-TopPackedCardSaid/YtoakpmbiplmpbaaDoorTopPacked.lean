/-
  Proved: whatever edges are handed in, TopPacked returns true, and the edges read as they did. Conditions: the library's table of bit positions holds what its own text lays (the card ties it).
-/
import Derived.Test.YtoakpmbiplmpbaaDoorPlay2
import Derived.Test.YtoakpmbiplmpbaaDoorTpStructs
namespace Go.Proofs.YtoakpmbiplmpbaaDoor.topPacked
open Go.ChangeShapes Go.WideShapes Go.ChangeAt Go.RowKit Base Bits
open Pk (E zE Eds sortL eR eNum ltE Rises)
/-- Which edges have numbers. -/
def nR (a : E) : Bool := eR a.1 a.2.1 a.2.2.1 a.2.2.2
def nE (a : E) : Int := eNum a.1 a.2.1 a.2.2.1 a.2.2.2
theorem nE_bd {a : E} (h : nR a = true) : 0 < nE a ∧ nE a < 4611686018427387904 := by
  have := Pk.eR_iff.1 h
  unfold nE eNum
  omega
theorem nE_lt {a b : E} (h : nR a = true) (h' : nR b = true) (hl : ltE a b = true) : nE a < nE b := by
  have h1 := Pk.eR_iff.1 h
  have h2 := Pk.eR_iff.1 h'
  rw [Pk.ltE_iff] at hl
  unfold nE eNum
  omega
/-- The last number that was met. -/
def LastP (qs : List E) (k : Nat) (last : Int) : Prop := last = 0 ∨ ∃ j, j < k ∧ nR (qs.getD j zE) = true ∧ last = nE (qs.getD j zE)
theorem last_lt {qs : List E} {k : Nat} {last : Int} (hs : Rises qs) (hk : k < qs.length) (h : LastP qs k last) (hr : nR (qs.getD k zE) = true) : last < nE (qs.getD k zE) := by
  rcases h with h | ⟨j, hj, h1, h2⟩
  · rw [h]; exact (nE_bd hr).1
  · rw [h2]
    refine nE_lt h1 hr ?_
    have := List.pairwise_iff_getElem.1 hs j k (by omega) hk hj
    simpa [hk, (by omega : j < qs.length)] using this
theorem LastP.bd {qs : List E} {k : Nat} {last : Int} (h : LastP qs k last) : 0 ≤ last ∧ last < 4611686018427387904 := by
  rcases h with h | ⟨j, _, h1, h2⟩
  · omega
  · have := nE_bd h1; omega
theorem LastP.next {qs : List E} {k : Nat} {last : Int} (h : LastP qs k last) : LastP qs (k + 1) last := by
  rcases h with h | ⟨j, hj, h1, h2⟩
  · exact .inl h
  · exact .inr ⟨j, by omega, h1, h2⟩
theorem LastP.now {qs : List E} {k : Nat} (hr : nR (qs.getD k zE) = true) : LastP qs (k + 1) (nE (qs.getD k zE)) := .inr ⟨k, by omega, hr, rfl⟩
theorem eds_turned {w w1 : World} {v : Value} {xs : List E} {b g n V : Nat} (h : Eds w v xs) (hr : RowAt w b g n V) (hg : w.grownBy w1 (some g)) : Eds w1 v xs := by
  rcases h with h | ⟨g', o, c, hv, h1, h2, h3⟩
  · exact .inl h
  · by_cases h0 : xs.length = 0
    · have : xs = [] := List.length_eq_zero_iff.1 h0
      subst this
      exact .inl ⟨⟨_, _, hv⟩, rfl⟩
    · have hne : g' ≠ g := by
        intro e
        subst e
        have h5 := (h3 0 (by omega)).1
        unfold World.cell? at h5
        rw [hr.2.1] at h5
        simp only [Nat.zero_mul, Nat.add_zero] at h5
        by_cases hk : o < (n + 63) / 64
        · rw [wordsOf_get hk] at h5; simp at h5
        · rw [Array.getElem?_eq_none (by rw [size_wordsOf]; omega)] at h5; simp at h5
      have hc : ∀ o', w1.cell? ⟨g', o', none⟩ = w.cell? ⟨g', o', none⟩ := fun o' => World.cell?_of_block (w := w) (a := ⟨g', o', none⟩) (hg.block g' h1 (fun e => hne (Option.some.inj e)))
      refine .inr ⟨g', o, c, hv, Nat.lt_of_lt_of_le h1 hg.size, h2, fun k hk => ?_⟩
      simp only [hc]
      exact h3 k hk
/-- What holds between the rounds. -/
def TI (W w : World) (b g V : Nat) (s v : Value) (qs : List E) : Prop := Below W.heap.size W w ∧ RowAt w b g 1024 V ∧ Ints 0 w s (intsOf 1024 V) ∧ Eds w v qs ∧ W.heap.size ≤ g
section
variable {W w w1 : World} {b g V : Nat} {s v : Value} {qs : List E}
theorem TI.step (h : TI W w b g V s v qs) (hb : Below w.heap.size w w1) : TI W w1 b g V s v qs :=
  ⟨h.1.trans (hb.mono h.1.size), h.2.1.below hb, h.2.2.1.below hb, h.2.2.2.1.below hb, h.2.2.2.2⟩
theorem TI.turn {V' : Nat} {s' : Value} (h : TI W w b g V s v qs) (hg : w.grownBy w1 (some g)) (hr : RowAt w1 b g 1024 V') (hi : Ints 0 w1 s' (intsOf 1024 V')) : TI W w1 b g V' s' v qs :=
  ⟨h.1.grown hg h.1.size (by intro k hk; cases hk; exact h.2.2.2.2), hr, hi, eds_turned h.2.2.2.1 h.2.1 hg, h.2.2.2.2⟩
end
theorem bit_of {V i : Nat} (hi : i < 1024) : decide ((0 : Int) ≤ (i : Int) ∧ (i : Int) < (1024 : Nat) ∧ V.testBit (i : Int).toNat ≠ true) = !V.testBit i := by
  rw [Int.toNat_natCast]
  cases h : V.testBit i
  · rw [decide_eq_true ⟨by omega, by omega, by simp⟩]; rfl
  · rw [decide_eq_false (by simp)]; rfl
theorem in_of {V i : Nat} (hi : i < 1024) : decide ((i : Int) ∈ intsOf 1024 V) = V.testBit i := by
  rw [intsOf_in]
  unfold hasI
  rw [Int.toNat_natCast, decide_eq_true (by omega)]
  rfl
theorem three : (sortL [(2, 0, 0, 0), (1, 0, 0, 0), (2, 0, 0, 0)]).length = 2 := by decide +kernel
theorem len1024 : Bits.rowLen 1024 = 1024 := by decide
theorem lit3_of {w : World} {g : Nat} (h : w.heap[g]? = some (.cells #[.int .i64 2, .int .i64 0, .int .i64 0, .int .i64 0, .int .i64 1, .int .i64 0, .int .i64 0, .int .i64 0, .int .i64 2, .int .i64 0, .int .i64 0, .int .i64 0] 67)) : Eds w (.slice (some ⟨g, 0, none⟩) 3 3) [(2, 0, 0, 0), (1, 0, 0, 0), (2, 0, 0, 0)] := by
  refine .inr ⟨g, 0, 3, rfl, heap_lt h, by decide, fun k hk => ?_⟩
  have hk' : k = 0 ∨ k = 1 ∨ k = 2 := by simp at hk; omega
  rcases hk' with rfl | rfl | rfl <;> simp [World.cell?, h]
theorem lit3 (w : World) : Eds (w.alloc (.cells #[.int .i64 2, .int .i64 0, .int .i64 0, .int .i64 0, .int .i64 1, .int .i64 0, .int .i64 0, .int .i64 0, .int .i64 2, .int .i64 0, .int .i64 0, .int .i64 0] 67)) (.slice (some ⟨w.heap.size, 0, none⟩) 3 3) [(2, 0, 0, 0), (1, 0, 0, 0), (2, 0, 0, 0)] := lit3_of (heap_alloc_at _ _ _ rfl)
theorem eds_at {w : World} {p : Option Addr} {n c k : Nat} {xs : List E} (h : Eds w (.slice p n c) xs) (hk : k < xs.length) : ∃ g o, p = some ⟨g, o, none⟩ ∧
    w.cell? ⟨g, o + k * 4, none⟩ = some (.int .i64 (xs.getD k zE).1) ∧ w.cell? ⟨g, o + k * 4 + 1, none⟩ = some (.int .i64 (xs.getD k zE).2.1) ∧ w.cell? ⟨g, o + k * 4 + 2, none⟩ = some (.int .i64 (xs.getD k zE).2.2.1) ∧ w.cell? ⟨g, o + k * 4 + 3, none⟩ = some (.int .i64 (xs.getD k zE).2.2.2) := by
  obtain ⟨p', c', he, _, hc⟩ := h.open_
  have he := (Value.slice.inj he)
  obtain ⟨g, o, hp, _, hcell⟩ := hc k hk
  exact ⟨g, o, by rw [he.1, hp], hcell⟩
theorem edge_yes {a : E} (h : nR a = true) (w : World) : Calls Tryd.prog 42 #[.agg #[.int .i64 a.1, .int .i64 a.2.1, .int .i64 a.2.2.1, .int .i64 a.2.2.2]] w fun e w' => e = .returned (.tuple #[.int .u64 (nE a), .int .i64 0]) ∧ Below w.heap.size w w' := Pk.edge_ok _ _ _ _ w h
theorem edge_no {a : E} (h : nR a = false) (w : World) : Calls Tryd.prog 42 #[.agg #[.int .i64 a.1, .int .i64 a.2.1, .int .i64 a.2.2.1, .int .i64 a.2.2.2]] w fun e w' => e = .returned (.tuple #[.int .u64 0, .int .i64 1]) ∧ Below w.heap.size w w' := Pk.edge_bad _ _ _ _ w h
theorem set_bit {b g V j : Nat} {w : World} (h : RowAt w b g 1024 V) (hj : j < 1024) : Calls Tryd.prog 43 #[.pointer (some ⟨b, 0, none⟩), .int .i64 (j : Int), .bool true] w fun e w' => e = .returned (.bool (!V.testBit j)) ∧ RowAt w' b g 1024 (setV 1024 V j true) ∧ w.grownBy w' (some g) :=
  (set_any b g 1024 V j true w h).mono fun e w' hp => by
    obtain ⟨p1, p2, p3⟩ := hp
    rw [bit_of hj] at p1
    exact ⟨p1, p2, p3⟩
theorem in_bit {V j : Nat} {v : Value} {w : World} (h : Ints 0 w v (intsOf 1024 V)) (hj : j < 1024) : Calls Tryd.prog 44 #[v, .int .i64 (j : Int)] w fun e w' => e = .returned (.bool (V.testBit j)) ∧ w = w' := by
  have := in_any (j : Int) w h
  rwa [in_of hj] at this
theorem put_bit {V j : Nat} {v : Value} {w : World} (h : Ints 0 w v (intsOf 1024 V)) : Calls Tryd.prog 45 #[v, .int .i64 1024, .int .i64 (j : Int), .bool true] w (ListNew (intsOf 1024 (setV 1024 V j true)) w) := put_row (i := (j : Int)) (on := true) w h (by decide)
set_option maxHeartbeats 8000000 in
set_option maxRecDepth 100000 in
theorem walk (v : Value) (xs : List E) (w : World) (hx : Eds w v xs) (hT : TabAt 0 Lib.deBruijn64tab w) :
    Calls Tryd.prog 8 #[v] w fun e w' => e = .returned (.bool true) ∧ Below w.heap.size w w' := by
  have hg := table_lt hT
  have HT := Lib.hid hT
  have HG := Lib.hid hg
  have HX := Lib.hid hx
  have hv : ∃ p c, v = .slice p xs.length c := by obtain ⟨p, c, hv, _, _⟩ := hx.open_; exact ⟨p, c, hv⟩
  obtain ⟨p, c, rfl⟩ := hv
  have HN := Lib.hid (new_row 1024 w)
  rw [len1024] at HN
  clear hT hg hx
  go_enter Tryd.func8, Tryd.ntmps8
  go_wp2_with fail
  refine (HN.out).mono ?_
  rintro e w1 ⟨b, g, rfl, hr, hb, _, hg1⟩
  have T1 : Hid (TI w w1 b g 0 (.slice none 0 0) (.slice p xs.length c) xs) := Lib.hid ⟨hb, hr, by rw [intsOf_zero]; exact Ints.nil, HX.out.below hb, hg1⟩
  clear hr hb hg1 HX HN
  go_wp2_with fail
  refine (Pk.sortE_any _ (lit3 w1) (by decide)).mono ?_
  rintro e w2 ⟨⟨v2, rfl, hv⟩, hb⟩
  have hv2 : ∃ p2 c2, v2 = .slice p2 2 c2 := by
    obtain ⟨p2, c2, h2, _, _⟩ := hv.open_
    rw [three] at h2
    exact ⟨p2, c2, h2⟩
  obtain ⟨p2, c2, rfl⟩ := hv2
  have T2 := Lib.hid ((T1.out.step ((Below.refl _ w1).alloc (Nat.le_refl _) _)).step hb)
  clear hv hb T1
  by_cases h1 : 60 < xs.length
  · go_wp2
    go_ret
    exact ⟨rfl, T2.out.1⟩
  have h2 : xs.length ≤ 60 := by omega
  have HS := Lib.hid (Pk.sortE_any w2 T2.out.2.2.2.1 (by omega))
  have HR : Hid (Rises (sortL xs)) := Lib.hid (Pk.fold_put1 xs [] (by simp)).1
  have hql : (sortL xs).length ≤ 60 := Nat.le_trans (Pk.sortL_len xs) h2
  clear h1
  generalize sortL xs = qs at HS HR hql
  go_wp2_with fail
  refine (HS.out).mono ?_
  rintro e w3 ⟨⟨v3, rfl, hv⟩, hb⟩
  have T3 : Hid (TI w w3 b g 0 (.slice none 0 0) v3 qs) := Lib.hid ⟨(T2.out.step hb).1, (T2.out.step hb).2.1, (T2.out.step hb).2.2.1, hv, T2.out.2.2.2.2⟩
  have hv3 : ∃ p c, v3 = .slice p qs.length c := by obtain ⟨p, c, h, _, _⟩ := hv.open_; exact ⟨p, c, h⟩
  obtain ⟨p3, c3, rfl⟩ := hv3
  clear hv hb T2 HS
  go_wp2_with fail
  go_loopw [5, 6, 31] (fun s5 s6 s31 wr => ∃ (k V : Nat) (last : Int), s31 = .int .i64 k ∧ k ≤ qs.length ∧ s5 = .int .u64 last ∧ Hid (LastP qs k last) ∧ Hid (TI w wr b g V s6 (.slice p3 qs.length c3) qs)) (fun _ _ s31 _ => qs.length - (intOf s31).toNat)
  case atStart => exact ⟨0, 0, 0, rfl, Nat.zero_le _, rfl, Lib.hid (.inl rfl), T3⟩
  case round =>
    obtain ⟨k, V, last, rfl, hk, rfl, HL, HI⟩ := hrel
    by_cases hlt : k < qs.length
    · obtain ⟨g', o', rfl, c0, c1, c2', c3'⟩ := eds_at HI.out.2.2.2.1 hlt
      have HLT : Hid (nR (qs.getD k zE) = true → last < nE (qs.getD k zE)) := Lib.hid fun h => last_lt HR.out hlt HL.out h
      have HN1 := Lib.hid HL.out.next
      have HN2 : Hid (nR (qs.getD k zE) = true → LastP qs (k + 1) (nE (qs.getD k zE))) := Lib.hid fun h => LastP.now h
      have hbl := HL.out.bd
      generalize qs.getD k zE = a at c0 c1 c2' c3' HLT HN2
      have I1 := Lib.hid (HI.out.step ((Below.refl _ wr).alloc (Nat.le_refl _) (.cells #[.int .i64 a.1, .int .i64 a.2.1, .int .i64 a.2.2.1, .int .i64 a.2.2.2] 67)))
      clear HL
      cases hr : nR a
      · have HE := Lib.hid (edge_no hr)
        clear hr HLT HN2
        go_wp2_with fail
        refine (HE.out _).mono ?_
        rintro e w4 ⟨rfl, hb⟩
        have I2 := Lib.hid (I1.out.step hb)
        clear hb I1 c0 c1 c2' c3' HE HI
        go_wp2_with fail
        go_roundw
        case rel => exact ⟨k + 1, V, last, by go_num, by omega, rfl, HN1, I2⟩
        case measure => simp [intOf]; omega
      · have HE := Lib.hid (edge_yes hr)
        have hbd := nE_bd hr
        have hlast := HLT.out hr
        have HN3 := Lib.hid (HN2.out hr)
        clear hr HLT HN2 HN1
        generalize nE a = z at HE hbd hlast HN3
        have hle : decide (z ≤ last) = false := decide_eq_false (by omega)
        obtain ⟨hz0, hz1⟩ := hbd
        obtain ⟨hl0, hl1⟩ := hbl
        have hz2 : 0 ≤ z := by omega
        have hz3 : z ≤ 18446744073709551615 := by omega
        obtain ⟨j, hj⟩ : ∃ j : Nat, z % 1024 = (j : Int) := ⟨(z % 1024).toNat, by omega⟩
        have hj2 : j < 1024 := by omega
        go_wp2_with fail
        refine (HE.out _).mono ?_
        rintro e w4 ⟨rfl, hb⟩
        have I2 := Lib.hid (I1.out.step hb)
        have HSB := Lib.hid (set_bit I2.out.2.1 hj2)
        clear hb I1 c0 c1 c2' c3' HE HI
        go_wp2_with fail
        refine (HSB.out).mono ?_
        rintro e w5 ⟨rfl, hr, hgr⟩
        have HI5 := Lib.hid (I2.out.2.2.1.turned I2.out.2.1 hgr)
        have I5 : Hid (∀ s', Ints 0 w5 s' (intsOf 1024 (setV 1024 V j true)) → TI w w5 b g (setV 1024 V j true) s' (.slice (some ⟨g', o', none⟩) qs.length c3) qs) := Lib.hid fun s' h => I2.out.turn hgr hr h
        have HIB := Lib.hid (in_bit HI5.out hj2)
        have HPB := Lib.hid (put_bit (j := j) HI5.out)
        have TI5 : Hid (∀ s' w6, Ints 0 w6 s' (intsOf 1024 (setV 1024 V j true)) → Below w5.heap.size w5 w6 → TI w w6 b g (setV 1024 V j true) s' (.slice (some ⟨g', o', none⟩) qs.length c3) qs) := Lib.hid fun s' w6 hi hb => by
          have hz := I2.out.1.grown hgr I2.out.1.size (by intro k hk; cases hk; exact I2.out.2.2.2.2)
          exact ⟨hz.trans (hb.mono hz.size), hr.below hb, hi, (eds_turned I2.out.2.2.2.1 I2.out.2.1 hgr).below hb, I2.out.2.2.2.2⟩
        have hbb : ((!V.testBit j) == V.testBit j) = false := by cases V.testBit j <;> rfl
        have HBB := Lib.hid hbb
        clear hr hgr HI5 I5 I2 HSB hbb
        generalize V.testBit j = bt at HIB HBB ⊢
        generalize setV 1024 V j true = V' at HPB TI5
        go_wp2_with fail
        refine (HIB.out).mono ?_
        rintro e x ⟨rfl, rfl⟩
        have hbb := HBB.out
        cases bt
        all_goals
          clear hbb
          go_wp2_with fail
          refine (HPB.out).mono ?_
          rintro e w6 ⟨⟨v6, rfl, hv6⟩, hb6⟩
          have I6 := Lib.hid (TI5.out _ _ hv6 hb6)
          clear hv6 hb6
          go_wp2_with fail
          go_roundw
          case rel => exact ⟨k + 1, V', z, by go_num, by omega, rfl, HN3, I6⟩
          case measure => simp [intOf]; omega
    · have HLI := Lib.hid (list_ints b g 1024 V wr HI.out.2.1 (tab_below HT.out HG.out HI.out.1) (Nat.lt_of_lt_of_le HG.out HI.out.1.size))
      clear HL HR HT HG
      go_wp2_with fail
      refine (HLI.out).mono ?_
      rintro e w4 ⟨⟨lv, rfl, hv⟩, hb⟩
      have HSI := Lib.hid (sameInts_yes hv (HI.out.2.2.1.below hb))
      have I2 := Lib.hid (HI.out.step hb)
      clear hv hb HI HLI
      go_wp2_with fail
      refine (HSI.out).mono ?_
      rintro e w5 ⟨rfl, hb⟩
      have I3 := Lib.hid (I2.out.step hb)
      clear hb I2 HSI
      go_wp2
      go_ret
      exact ⟨rfl, I3.out.1⟩
set_option maxRecDepth 100000 in
/-- What the walk gives, for every argument and every world that holds the table. -/
theorem contract (H : Type) (enc : TypeId × Value → H) (W : World) (base : Nat) (args : Array Value) (ds gs : List (DataW H)) (before : List MemPlace)
    (hval : ∀ (j : Nat) t v, Tryd.f8.params[j]? = some t → args[j]? = some v → Value.okWide Tryd.prog W .any base t v)
    (hW : DataW.Whole enc Tryd.prog Tryd.f8.params.toList Rows.topPackedSpec.vars false W args.toList ds gs before) (hL : laidMetH Tryd.prog Rows.topPackedRow.laid W) :
    Calls Tryd.prog 8 args W fun e W' => ∃ v, e = .returned v ∧ Rows.topPackedSpec.post enc Tryd.prog Tryd.f8 false true false false W args v W' := by
  have hW' := hW
  obtain ⟨p, q, hA0, hV, rfl, hfz, hnd⟩ := hW
  have hA : DataW.TrodAll enc Tryd.prog W 0 (fun _ => true) true Tryd.f8.params.toList args.toList ds p := hA0
  rw [Tryd.params8] at hA hval
  obtain ⟨v0, vs0, d0, ds0, p0, q0, hargs, rfl, rfl, r0, r0'⟩ := trodAll_cons hA
  obtain ⟨rfl, rfl, rfl⟩ := trodAll_nil r0'
  obtain rfl : args = #[v0] := by cases args; simp_all
  obtain ⟨rfl, rfl⟩ := trodVars_none hV
  have hlt : ∀ x ∈ p0 ++ [], x.block < W.heap.size := fun x hx => by simpa using hW'.lt x (by simpa using hx)
  have back0 : ∀ W', Below W.heap.size W W' → DataW.Trod enc Tryd.prog W' 0 (fun b => decide (b < W.heap.size)) true 64 v0 d0 p0 :=
    fun W' hn => Below.trod laidOut (by kernel_rfl) (of_decide_eq_true (by kernel_rfl)) r0 hn fun x hx => hlt x (by simp [hx])
  obtain ⟨xs, hxs⟩ := Pk.open_edges (hval 0 64 v0 rfl rfl) r0
  refine (walk v0 xs W hxs (table hL)).mono fun e W' ⟨he, hb⟩ => ?_
  subst he
  exact ⟨_, rfl, _, _, _, [], _, [], hW', trodAll_cons_mk (shut_bool Tryd.underlying4 _) trodAll_mk0, trodAll_cons_mk (back0 W' hb) trodAll_mk0, rfl, hb.frame _, fun h => by cases h⟩
/-- A world for the witness: the settled one, the table holding what its text lays. -/
noncomputable def laidWorld (os : Os) : World :=
  { World.holding Tryd.prog os ⟨#[], #[], []⟩ with heap := (World.holding Tryd.prog os ⟨#[], #[], []⟩).heap.modify 0 fun
      | .cells _ t frozen => .cells (Lib.deBruijn64tab.map fun (z : Nat) => Value.int .u8 (z : Int)).toArray t frozen
      | o => o }
def wargs : Array Value := #[.slice none 0 0]
set_option maxRecDepth 100000 in
theorem laid_met (os : Os) : laidMet Tryd.prog Rows.topPackedRow.laid ((laidWorld os).forCall (fun _ _ => 0) ⟨#[], wargs, []⟩).memory :=
  laidMet_of_run' 8 (by kernel_rfl) (by kernel_rfl)
set_option maxRecDepth 100000 in
theorem reads (os : Os) {H : Type} (enc : TypeId × Value → H) : ∃ places, DataW.whole enc Tryd.prog ((laidWorld os).forCall (fun _ _ => 0) ⟨#[], wargs, []⟩).memory Tryd.f8.params.toList Rows.topPackedSpec.vars false wargs.toList 8 = some ([.nil], [], places) :=
  ⟨[], by kernel_rfl⟩
set_option maxRecDepth 100000 in
theorem lifted (os : Os) (started : os.Started) (H : Type) (enc : TypeId × Value → H) (F : Stop.Interp) :
    ReturnsInHanded {} Tryd.checked os 8 .any ((OpenSpec.ofChange Rows.topPackedSpec).preRow enc Tryd.prog Tryd.f8 Rows.topPackedRow.domain false Rows.topPackedRow.laid) (((OpenSpec.ofChange Rows.topPackedSpec).at F).post enc Tryd.prog Tryd.f8 false true false false) := by
  obtain ⟨places, hx⟩ := reads os enc
  refine returnsInHanded_of_row (C := Tryd.checked) (s := OpenSpec.ofChange Rows.topPackedSpec) own started (by kernel_rfl) Tryd.func8
    (witness_row_at (enc := enc) (C := Tryd.checked) false (laidWorld os) wargs rfl (by kernel_rfl) (by kernel_rfl) (by kernel_rfl)
      (OpenSpec.preRow_of_cond 8 hx (by kernel_rfl) (fun k hk => by cases hk) (by kernel_rfl) (laid_met os))) ?_
  intro W base args ds gs before hval hW _ _ _ hL _ _
  exact contract H enc W base args ds gs before hval hW hL
set_option maxRecDepth 100000 in
theorem said : Rows.TopPackedSaid :=
  OpenClaim.holds_of_cond 8 Tryd.f8 rfl rfl rfl rfl rfl rfl rfl ⟨rfl, rfl, rfl, rfl, rfl⟩ rfl rfl rfl rfl rfl (by kernel_rfl) Tryd.func8 (by kernel_rfl)
    (of_decide_eq_true (by kernel_rfl)) (by unfold Func.isWrapper; first | (rw [if_pos (by decide +kernel)]; kernel_rfl) | (rw [if_neg (by decide +kernel)]; exact ⟨rfl, rfl⟩))
    (fun os started H enc _ F => by rw [OpenClaim.pre_eq_preRow]; exact lifted os started H enc F)
set_option maxRecDepth 100000 in
/-- No parameter wants a stand-in; the program's own looks are off. -/
theorem plain (f : FuncId) (fn : Func) (hf : Tryd.pinned.checked.prog.funcNamed "tenter/tentertop.TopPacked" = some f) (hfn : Tryd.pinned.checked.prog.funcs[f]? = some fn) :
    false = Tryd.pinned.checked.prog.looks [] ∧ ∀ (j : Nat) t, fn.params[j]? = some t → Tryd.pinned.checked.prog.wantsStandIn t = false := by
  obtain rfl : f = 8 := Option.some.inj ((show Tryd.prog.funcNamed "tenter/tentertop.TopPacked" = some 8 by kernel_rfl).symm.trans hf) |>.symm
  obtain rfl : fn = Tryd.f8 := (Option.some.inj (Tryd.func8.symm.trans hfn)).symm
  refine ⟨by kernel_rfl, fun j t ht => ?_⟩
  rw [Tryd.params8] at ht
  have hm : t = 64 := by have := Array.mem_of_getElem? ht; simp at this; omega
  subst hm
  exact (show Tryd.prog.wantsStandIn 64 = false by kernel_rfl)
set_option maxRecDepth 100000 in
/-- The card. -/
theorem proved : Rows.TopPackedCardSaid :=
  Claim7.holds_tied_plain_at .later [] _ _ _ _ said (fun _ h => by cases h) (by kernel_rfl) (fun _ h => by cases h) topPacked_row_tie rfl ⟨rfl, rfl⟩ (by kernel_rfl) rfl plain (by kernel_rfl)
#print axioms proved
end Go.Proofs.YtoakpmbiplmpbaaDoor.topPacked
