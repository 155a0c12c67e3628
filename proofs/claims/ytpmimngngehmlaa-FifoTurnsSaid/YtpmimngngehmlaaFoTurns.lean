/-
  FifoTurns' walk. Not a statement of the seat.
-/
import Derived.Test.YtpmimngngehmlaaFoLives
namespace Go.Proofs.Ytpmimngngehmlaa.F
open Go.ChangeShapes Go.WideShapes Go.ChangeAt Go.RowKit Base
theorem take_snoc {xs : List Int} {i : Nat} (h : i < xs.length) : xs.take (i + 1) = xs.take i ++ [xs.getD i 0] := by
  rw [List.take_add_one, List.getElem?_eq_getElem h, List.getD_eq_getElem?_getD, List.getElem?_eq_getElem h]; rfl
theorem drop_cons {xs : List Int} {i : Nat} (h : i < xs.length) : xs.drop i = xs.getD i 0 :: xs.drop (i + 1) := by
  rw [List.getD_eq_getElem?_getD, List.getElem?_eq_getElem h]
  exact List.drop_eq_getElem_cons h
theorem take_last {xs : List Int} {i : Nat} (h : i < xs.length) : (xs.take (i + 1)).dropLast = xs.take i ∧ (xs.take (i + 1)).reverse = xs.getD i 0 :: (xs.take i).reverse := by
  rw [take_snoc h]; simp
set_option maxRecDepth 100000 in
set_option maxHeartbeats 4000000 in
theorem foturns (p : Option Addr) (c : Nat) (xs : List Int) (ahead : Int) (w : World) (hx : Lst.Ints 0 w (.slice p xs.length c) xs) :
    Calls Try.prog 9 #[.slice p xs.length c, .int .i64 ahead] w fun e w' => e = .returned (.bool true) ∧ Below w.heap.size w w' := by
  have HX := Lib.hid hx
  by_cases h1 : xs.length ≤ 100
  · by_cases h2 : 0 ≤ ahead
    · by_cases h3 : ahead ≤ 200
      · have h1' : (xs.length : Int) ≤ 100 := by omega
        have d1 : decide (100 < (xs.length : Int)) = false := by rw [decide_eq_false_iff_not]; omega
        have d2 : decide (ahead < 0) = false := by rw [decide_eq_false_iff_not]; omega
        have d3 : decide (200 < ahead) = false := by rw [decide_eq_false_iff_not]; omega
        clear hx
        go_enter Try.func9, Try.ntmps9
        go_wp2_with fail
        refine (folives w).mono ?_
        rintro e w1 ⟨rfl, hb⟩
        have HB := Lib.hid hb
        clear hb
        go_wp2_with fail
        refine (fqnew ((xs.length : Int) + 1) w1).mono ?_
        intro e w2 hq
        have H1 := Lib.hid hq
        obtain ⟨b0, g0, rfl, _⟩ := hq
        go_wp2_with fail
        refine (fsnew (xs.length : Int) w2).mono ?_
        intro e w3 hs
        obtain ⟨qb, qg, sb, e1, rfl, I0⟩ := FI.new H1.out hs
        injection e1 with e1; injection e1 with e1; injection e1 with e1; injection e1 with e1
        subst e1
        clear hs H1
        rw [show roomOf ((xs.length : Int) + 1) = xs.length + 1 by unfold roomOf; omega, show roomOf (xs.length : Int) = xs.length by unfold roomOf; omega] at I0
        go_wp2_with fail
        go_loopw [7] (fun s7 wr => ∃ i : Int, s7 = .int .i64 i ∧ 0 ≤ i ∧ i ≤ ahead ∧ Hid (FI w1 wr b0 qg sb none (xs.length + 1) xs.length [] [] [])) (fun s7 _ => (ahead - intOf s7).toNat)
        case atStart => exact ⟨0, rfl, Int.le_refl _, h2, I0⟩
        case round =>
          obtain ⟨i, rfl, hi0, hi1, I1⟩ := hrel
          by_cases hlt : i < ahead
          · go_wp2_with fail
            refine (I1.out.qstep i (by simp)).mono ?_
            intro e u1 hq
            obtain ⟨he, I2⟩ : _ ∧ Hid (FI w1 u1 b0 qg sb none (xs.length + 1) xs.length [i] [] []) := I1.out.q hq
            subst he
            clear hq I1
            go_wp2_with fail
            refine (fqpop I2.out.1).mono ?_
            intro e u2 hq
            obtain ⟨he, I3⟩ : e = .returned (.tuple #[.int .i64 i, .bool true]) ∧ Hid (FI w1 u2 b0 qg sb none (xs.length + 1) xs.length [] [] []) := I2.out.q hq
            subst he
            clear hq I2
            go_wp2
            go_roundw
            case rel => exact ⟨i + 1, by go_num, by omega, by omega, I3⟩
            case measure => simp [intOf]; omega
          · clear hi0
            go_wp2_with fail
            go_loopw [53] (fun s53 wr => ∃ (i : Nat) (so : Option Nat), s53 = .int .i64 (i : Int) ∧ i ≤ xs.length ∧ Hid (FI w1 wr b0 qg sb so (xs.length + 1) xs.length (xs.take i) (xs.take i) [])) (fun s53 _ => xs.length - (intOf s53).toNat)
            case atStart => exact ⟨0, none, rfl, Nat.zero_le _, I1⟩
            case round =>
              obtain ⟨j, so, rfl, hj, I2⟩ := hrel
              by_cases hjl : j < xs.length
              · obtain ⟨p', c', hv, _, hk⟩ := (HX.out.below (HB.out.trans (I2.out.2.2.1.mono HB.out.size))).open_
                obtain ⟨g, o, hp, _, hg, hc⟩ := hk j hjl
                injection hv with e1 e2 e3
                subst e1 e3 hp
                have ht := take_snoc hjl
                have hl1 : (xs.take j).length < xs.length + 1 := by rw [List.length_take]; omega
                have hl2 : (xs.take j).length < xs.length := by rw [List.length_take]; omega
                generalize xs.getD j 0 = x at hc ht
                clear hk
                go_wp2_with fail
                refine (I2.out.qstep x hl1).mono ?_
                intro e u1 hq
                obtain ⟨he, I3⟩ := I2.out.q hq
                subst he
                clear hq I2 hc hg
                go_wp2_with fail
                refine (I3.out.sstep x hl2).mono ?_
                intro e u2 hs
                obtain ⟨he, so', I4⟩ := I3.out.s hs
                subst he
                clear hs I3
                rw [← ht] at I4
                clear ht
                go_wp2
                go_roundw
                case rel => exact ⟨j + 1, so', by go_num, by omega, I4⟩
                case measure => simp [intOf]; omega
              · have e : j = xs.length := by omega
                have I3 := Lib.hid I2.out
                rw [e, List.take_length] at I3
                clear I2 hjl
                subst e
                go_wp2_with fail
                go_loopw [70] (fun s70 wr => ∃ (i : Nat) (so : Option Nat), s70 = .int .i64 (i : Int) ∧ i ≤ xs.length ∧ Hid (FI w1 wr b0 qg sb so (xs.length + 1) xs.length (xs.drop i) (xs.take (xs.length - i)) [])) (fun s70 _ => xs.length - (intOf s70).toNat)
                case atStart => exact ⟨0, so, rfl, Nat.zero_le _, by rw [Nat.sub_zero, List.take_length]; exact I3⟩
                case round =>
                  obtain ⟨m, so, rfl, hm, I4⟩ := hrel
                  by_cases hml : m < xs.length
                  · have HI := Lib.hid (HX.out.below (HB.out.trans (I4.out.2.2.1.mono HB.out.size)))
                    have hd := drop_cons hml
                    obtain ⟨k, hk⟩ : ∃ k, xs.length - m = k + 1 := ⟨xs.length - m - 1, by omega⟩
                    have hkl : k < xs.length := by omega
                    obtain ⟨ht1, ht2⟩ := take_last hkl
                    have hk2 : xs.length - (m + 1) = k := by omega
                    have hk3 : (xs.length : Int) - 1 - (m : Int) = (k : Int) := by omega
                    have HC : Hid (∀ X, Below w1.heap.size w1 X → ∃ g o, p = some ⟨g, o, none⟩ ∧ X.cell? ⟨g, o + m, none⟩ = some (.int .i64 (xs.getD m 0)) ∧ X.cell? ⟨g, o + k, none⟩ = some (.int .i64 (xs.getD k 0))) := Lib.hid fun X hX => by
                      obtain ⟨p', c', hv, _, hkk⟩ := (HX.out.below (HB.out.trans (hX.mono HB.out.size))).open_
                      injection hv with e1 e2 e3
                      subst e1 e3
                      obtain ⟨g, o, hp, _, hg, hc⟩ := hkk m hml
                      obtain ⟨g', o', hp', _, hg', hc'⟩ := hkk k hkl
                      rw [hp] at hp'
                      injection hp' with e1
                      injection e1 with e1 e2
                      subst e1 e2
                      exact ⟨g, o, hp, hc, hc'⟩
                    rw [hk] at I4
                    rw [hd] at I4
                    clear hk hd HI
                    generalize xs.getD m 0 = x at I4 HC
                    generalize xs.getD k 0 = y at ht2 HC
                    go_wp2_with fail
                    refine (fqpop I4.out.1).mono ?_
                    intro e u1 hq
                    obtain ⟨he, I5⟩ : e = .returned (.tuple #[.int .i64 x, .bool true]) ∧ Hid (FI w1 u1 b0 qg sb so (xs.length + 1) xs.length (xs.drop (m + 1)) (xs.take (k + 1)) []) := I4.out.q hq
                    subst he
                    clear hq I4
                    go_wp2_with fail
                    refine (fspop I5.out.2.1).mono ?_
                    intro e u2 hs
                    obtain ⟨he, so', I6⟩ := I5.out.s hs
                    rw [ht2] at he
                    rw [ht1] at I6
                    obtain rfl : e = .returned (.tuple #[.int .i64 y, .bool true]) := he
                    clear hs I5 ht1 ht2
                    obtain ⟨g, o, rfl, c1, c2⟩ := HC.out _ I6.out.2.2.1
                    go_wp2
                    go_roundw
                    case rel => exact ⟨m + 1, so', by go_num, by omega, by rw [hk2]; exact I6⟩
                    case measure => simp [intOf]; omega
                  · have e : m = xs.length := by omega
                    have I5 := Lib.hid I4.out
                    rw [e, List.drop_length, Nat.sub_self, List.take_zero] at I5
                    clear I4 hml
                    subst e
                    go_wp2_with fail
                    refine (fqlen I5.out.1).mono ?_
                    rintro e u1 ⟨rfl, rfl⟩
                    go_wp2_with fail
                    refine (fslen I5.out.2.1).mono ?_
                    rintro e u2 ⟨rfl, rfl⟩
                    go_wp2
                    go_ret
                    exact ⟨rfl, HB.out.trans (I5.out.2.2.1.mono HB.out.size)⟩
      · have d1 : decide (100 < (xs.length : Int)) = false := by rw [decide_eq_false_iff_not]; omega
        have d2 : decide (ahead < 0) = false := by rw [decide_eq_false_iff_not]; omega
        have d3 : (200 : Int) < ahead := by omega
        clear hx
        go_enter Try.func9, Try.ntmps9
        go_wp2_with fail
        refine (folives w).mono ?_
        rintro e w1 ⟨rfl, hb⟩
        have HB := Lib.hid hb
        clear hb
        go_wp2
        go_ret
        exact ⟨rfl, HB.out⟩
    · have d1 : decide (100 < (xs.length : Int)) = false := by rw [decide_eq_false_iff_not]; omega
      have d2 : ahead < 0 := by omega
      clear hx
      go_enter Try.func9, Try.ntmps9
      go_wp2_with fail
      refine (folives w).mono ?_
      rintro e w1 ⟨rfl, hb⟩
      have HB := Lib.hid hb
      clear hb
      go_wp2
      go_ret
      exact ⟨rfl, HB.out⟩
  · have d1 : (100 : Int) < (xs.length : Int) := by omega
    clear hx
    go_enter Try.func9, Try.ntmps9
    go_wp2_with fail
    refine (folives w).mono ?_
    rintro e w1 ⟨rfl, hb⟩
    have HB := Lib.hid hb
    clear hb
    go_wp2
    go_ret
    exact ⟨rfl, HB.out⟩
end Go.Proofs.Ytpmimngngehmlaa.F
