/-
  Contracts of merge, Or and Copy, the other row another one. Not a statement of the seat.
-/
import Derived.Test.YtoakpmbiplmpbaaDoorRow5
import Derived.Test.YtoakpmbiplmpbaaDoorShelf
namespace Go.Proofs.YtoakpmbiplmpbaaDoor.Bits
open Go.ChangeShapes Go.WideShapes Go.ChangeAt Go.RowKit Base Go.Shelf
theorem words_ext {n A B : Nat} (hA : A < 2 ^ n) (hB : B < 2 ^ n) (h : ∀ k, k < (n + 63) / 64 → wrd A k = wrd B k) : A = B := by
  apply Nat.eq_of_testBit_eq
  intro i
  by_cases hi : i < n
  · have h1 := wrd_testBit A (i / 64) (i % 64)
    have h2 := wrd_testBit B (i / 64) (i % 64)
    rw [h _ (by omega)] at h1
    have h3 := h1.symm.trans h2
    have hm : i % 64 < 64 := Nat.mod_lt _ (by decide)
    rwa [decide_eq_true hm, Bool.true_and, Bool.true_and, show 64 * (i / 64) + i % 64 = i by omega] at h3
  · rw [Nat.testBit_lt_two_pow (Nat.lt_of_lt_of_le hA (Nat.pow_le_pow_right (by decide) (by omega))), Nat.testBit_lt_two_pow (Nat.lt_of_lt_of_le hB (Nat.pow_le_pow_right (by decide) (by omega)))]
/-- Does one of the first k words differ? -/
def diffTo (A B : Nat) : Nat → Bool
  | 0 => false
  | k + 1 => diffTo A B k || (wrd A k != wrd B k)
theorem diffTo_succ (A B k : Nat) : diffTo A B (k + 1) = (diffTo A B k || (wrd A k != wrd B k)) := rfl
theorem diffTo_iff (A B k : Nat) : diffTo A B k = false ↔ ∀ j, j < k → wrd A j = wrd B j := by
  induction k with
  | zero => simp [diffTo]
  | succ k ih =>
    rw [diffTo_succ, Bool.or_eq_false_iff, ih, bne_eq_false_iff_eq]
    constructor
    · rintro ⟨h1, h2⟩ j hj
      by_cases e : j = k
      · rw [e]; exact h2
      · exact h1 j (by omega)
    · intro h
      exact ⟨fun j hj => h j (by omega), h k (by omega)⟩
theorem diffTo_all {n A B : Nat} (hA : A < 2 ^ n) (hB : B < 2 ^ n) : diffTo A B ((n + 63) / 64) = decide (A ≠ B) := by
  by_cases e : A = B
  · subst e
    rw [(diffTo_iff A A _).2 (fun _ _ => rfl)]
    simp
  · have : diffTo A B ((n + 63) / 64) ≠ false := fun h => e (words_ext hA hB ((diffTo_iff A B _).1 h))
    rw [decide_eq_true e]
    simpa using this
attribute [irreducible] diffTo
theorem MixAt.grown {w w1 : World} {b g n A B k x : Nat} (h : MixAt w b g n A B k) (hg : w.grownBy w1 (some x)) (hb : b ≠ x) (hg' : g ≠ x) : MixAt w1 b g n A B k :=
  ⟨(hg.block b (heap_lt h.1) (fun e => hb (Option.some.inj e))).trans h.1, (hg.block g (heap_lt h.2.1) (fun e => hg' (Option.some.inj e))).trans h.2.1, h.2.2⟩
theorem grown_set {w wr : World} {g o : Nat} {v : Value} (h : w.grownBy wr (some g)) : w.grownBy (wr.setCell ⟨g, o, none⟩ v) (some g) :=
  ⟨h.os, h.tape, h.output, by have := h.size; rwa [World.size_setCell], fun k hk hne => (Below.heap_setCell _ _ _ _ (fun e => hne (by rw [e]))).trans (h.block k hk hne)⟩
theorem bne_cast (a b : Nat) : (a != b) = ((a : Int) != (b : Int)) := by
  rw [Bool.eq_iff_iff, bne_iff_ne, bne_iff_ne]; omega
set_option maxHeartbeats 2000000 in
theorem merge_gen (b g n V bo O R : Nat) (f : Nat → Nat → Nat) (V' : Nat) (hV' : V' < 2 ^ n) (hf : ∀ x y, x < 18446744073709551616 → y < 18446744073709551616 → f x y < 18446744073709551616)
    (hR : ∀ (x y : Nat) wx, x < 18446744073709551616 → y < 18446744073709551616 → Calls Tryd.prog R #[.int .u64 (x : Int), .int .u64 (y : Int)] wx fun e w' => e = .returned (.int .u64 (f x y : Nat)) ∧ w' = wx)
    (eR : ∀ args w, (callFunc R args).run Tryd.prog w = .ok (.enter R args) w)
    (hw : ∀ k, k < (n + 63) / 64 → f (wrd V k) (wrd O k) &&& mask n k = wrd V' k) (w : World) (h : RowAt w b g n V)
    (ho : ∀ k wr, k < (n + 63) / 64 → MixAt wr b g n V' V k → w.grownBy wr (some g) → Calls Tryd.prog 72 #[.pointer (some ⟨bo, 0, none⟩), .int .i64 (k : Int)] wr fun e w' => e = .returned (.int .u64 (wrd O k : Nat)) ∧ w' = wr) :
    Calls Tryd.prog 53 #[.pointer (some ⟨b, 0, none⟩), .pointer (some ⟨bo, 0, none⟩), .func (.func R) #[] #[]] w fun e w' => e = .returned (.bool (decide (V' ≠ V))) ∧ RowAt w' b g n V' ∧ w.grownBy w' (some g) := by
  obtain ⟨h0, h1⟩ := h.head
  have hn := h.2.2.1
  have HD := Lib.hid (diffTo_all hV' h.2.2.2)
  have HM := Lib.hid (MixAt.start (A := V') h)
  have HO := Lib.hid ho
  have HF := Lib.hid hf
  have HRR := Lib.hid hR
  have HW := Lib.hid hw
  have HV' := Lib.hid hV'
  clear h ho hf hR hw hV'
  generalize decide (V' ≠ V) = res at HD ⊢
  go_enter Tryd.func53, Tryd.ntmps53
  go_wp2_with fail
  clear h0 h1
  go_loopw [7, 18] (fun s7 s18 wr => ∃ k : Nat, s18 = .int .i64 k ∧ k ≤ (n + 63) / 64 ∧ s7 = .bool (diffTo V' V k) ∧ MixAt wr b g n V' V k ∧ w.grownBy wr (some g)) (fun _ s18 _ => (n + 63) / 64 - (intOf s18).toNat)
  case atStart => exact ⟨0, rfl, Nat.zero_le _, by unfold diffTo; rfl, HM.out, World.grownBy.refl _ _⟩
  case round =>
    obtain ⟨k, rfl, hk, rfl, hmix, hgr⟩ := hrel
    by_cases hlt : k < (n + 63) / 64
    · obtain ⟨h0, h1⟩ := hmix.head
      obtain ⟨h2, h3⟩ := hmix.word hlt
      have HWD : Hid (Calls Tryd.prog 72 #[.pointer (some ⟨bo, 0, none⟩), .int .i64 (k : Int)] wr fun e w' => e = .returned (.int .u64 (wrd O k : Nat)) ∧ w' = wr) := Lib.hid (HO.out k wr hlt hmix hgr)
      have HPL : Hid (Calls Tryd.prog 59 #[.pointer (some ⟨b, 0, none⟩), .int .i64 (k : Int)] wr fun e w' => e = .returned (.int .u64 (mask n k : Nat)) ∧ w' = wr) := Lib.hid (places_any b n k hlt hn wr h0)
      have HRC := Lib.hid (HRR.out (wrd V k) (wrd O k) wr (wrd_lt _ _) (wrd_lt _ _))
      have hb : bits .and .u64 (f (wrd V k) (wrd O k) : Nat) (mask n k : Nat) = (wrd V' k : Nat) := by
        rw [u64_and_nat _ _ (HF.out _ _ (wrd_lt _ _) (wrd_lt _ _)) (mask_lt _ _), HW.out k hlt]
      have HS := Lib.hid (diffTo_succ V' V k)
      have HX := Lib.hid hmix
      have HG := Lib.hid hgr
      clear hmix hgr
      go_wp2_with fail
      refine (HWD.out).mono ?_
      rintro e wx ⟨rfl, rfl⟩
      go_wp2_with fail
      refine (HRC.out).mono ?_
      rintro e wy ⟨rfl, rfl⟩
      go_wp2_with fail
      refine (HPL.out).mono ?_
      rintro e wz ⟨rfl, rfl⟩
      generalize diffTo V' V k = D at HS ⊢
      cases D
      · go_wp2_with fail
        go_roundw
        case rel => exact ⟨k + 1, by go_num, by omega, by rw [HS.out, bne_cast]; rfl, HX.out.set_ hlt, grown_set HG.out⟩
        case measure => simp [intOf]; omega
      · go_wp2_with fail
        go_roundw
        case rel => exact ⟨k + 1, by go_num, by omega, by rw [HS.out]; rfl, HX.out.set_ hlt, grown_set HG.out⟩
        case measure => simp [intOf]; omega
    · have e : k = (n + 63) / 64 := by omega
      subst e
      rw [HD.out]
      have HR := Lib.hid (MixAt.done hmix HV'.out)
      have HG := Lib.hid hgr
      clear hmix hgr hlt hk
      go_wp2
      go_ret
      exact ⟨rfl, HR.out, HG.out⟩
theorem word_at {O : Nat} (k : Nat) : wordAt O (k : Int) = wrd O k := by unfold wordAt; rw [if_pos (by omega), Int.toNat_natCast]
theorem merge_any (b g n V bo go no O R : Nat) (f : Nat → Nat → Nat) (V' : Nat) (hV' : V' < 2 ^ n) (hf : ∀ x y, x < 18446744073709551616 → y < 18446744073709551616 → f x y < 18446744073709551616)
    (hR : ∀ (x y : Nat) wx, x < 18446744073709551616 → y < 18446744073709551616 → Calls Tryd.prog R #[.int .u64 (x : Int), .int .u64 (y : Int)] wx fun e w' => e = .returned (.int .u64 (f x y : Nat)) ∧ w' = wx)
    (eR : ∀ args w, (callFunc R args).run Tryd.prog w = .ok (.enter R args) w)
    (hw : ∀ k, k < (n + 63) / 64 → f (wrd V k) (wrd O k) &&& mask n k = wrd V' k) (w : World) (h : RowAt w b g n V) (ho : RowAt w bo go no O) (hne : bo ≠ g ∧ go ≠ g) :
    Calls Tryd.prog 53 #[.pointer (some ⟨b, 0, none⟩), .pointer (some ⟨bo, 0, none⟩), .func (.func R) #[] #[]] w fun e w' => e = .returned (.bool (decide (V' ≠ V))) ∧ RowAt w' b g n V' ∧ w.grownBy w' (some g) :=
  merge_gen b g n V bo O R f V' hV' hf hR eR hw w h fun k wr _ _ hgr => by
    have hq := word_any bo go no O k wr (ho.grown hgr hne.1 hne.2)
    rwa [word_at] at hq
set_option maxHeartbeats 1000000 in
theorem word_mix (b g n A V k : Nat) (hk : k < (n + 63) / 64) (w : World) (h : MixAt w b g n A V k) : Calls Tryd.prog 72 #[.pointer (some ⟨b, 0, none⟩), .int .i64 (k : Int)] w fun e w' => e = .returned (.int .u64 (wrd V k : Nat)) ∧ w' = w := by
  obtain ⟨h0, h1⟩ := h.head
  have hn := h.2.2
  obtain ⟨hc, _⟩ := h.word hk
  clear h
  go_enter Tryd.func72, Tryd.ntmps72
  go_wp2
  go_ret
  exact ⟨rfl, rfl⟩
/-- A row put together with itself. -/
theorem merge_self (b g n V R : Nat) (f : Nat → Nat → Nat) (V' : Nat) (hV' : V' < 2 ^ n) (hf : ∀ x y, x < 18446744073709551616 → y < 18446744073709551616 → f x y < 18446744073709551616)
    (hR : ∀ (x y : Nat) wx, x < 18446744073709551616 → y < 18446744073709551616 → Calls Tryd.prog R #[.int .u64 (x : Int), .int .u64 (y : Int)] wx fun e w' => e = .returned (.int .u64 (f x y : Nat)) ∧ w' = wx)
    (eR : ∀ args w, (callFunc R args).run Tryd.prog w = .ok (.enter R args) w)
    (hw : ∀ k, k < (n + 63) / 64 → f (wrd V k) (wrd V k) &&& mask n k = wrd V' k) (w : World) (h : RowAt w b g n V) :
    Calls Tryd.prog 53 #[.pointer (some ⟨b, 0, none⟩), .pointer (some ⟨b, 0, none⟩), .func (.func R) #[] #[]] w fun e w' => e = .returned (.bool (decide (V' ≠ V))) ∧ RowAt w' b g n V' ∧ w.grownBy w' (some g) :=
  merge_gen b g n V b V R f V' hV' hf hR eR hw w h fun k wr hk hm _ => word_mix b g n V' V k hk wr hm
/-- V's places, and those of O that are places. -/
def orV (n V O : Nat) : Nat := V ||| O % 2 ^ n
theorem orV_lt {n V O : Nat} (hV : V < 2 ^ n) : orV n V O < 2 ^ n := Nat.or_lt_two_pow hV (Nat.mod_lt _ (Nat.two_pow_pos n))
theorem orV_word {n V O : Nat} (hV : V < 2 ^ n) (k : Nat) : (wrd V k ||| wrd O k) &&& mask n k = wrd (orV n V O) k := by
  apply Nat.eq_of_testBit_eq
  intro j
  unfold orV
  rw [wrd_testBit, Nat.testBit_and, Nat.testBit_or, Nat.testBit_or, Nat.testBit_mod_two_pow, wrd_testBit, wrd_testBit]
  by_cases hj : j < 64
  · rw [mask_testBit _ _ _ hj, decide_eq_true hj]
    by_cases hi : 64 * k + j < n
    · simp [hi]
    · rw [Nat.testBit_lt_two_pow (Nat.lt_of_lt_of_le hV (Nat.pow_le_pow_right (n := 2) (i := n) (j := 64 * k + j) (by decide) (by omega)))]
      simp [hi]
  · simp [hj]
theorem or1_any (x y : Nat) (wx : World) (hx : x < 18446744073709551616) (hy : y < 18446744073709551616) : Calls Tryd.prog 54 #[.int .u64 (x : Int), .int .u64 (y : Int)] wx fun e w' => e = .returned (.int .u64 (x ||| y : Nat)) ∧ w' = wx := by
  have hb := u64_or_nat x y hx hy
  go_enter Tryd.func54, Tryd.ntmps54
  go_wp2
  go_ret
  exact ⟨rfl, rfl⟩
theorem or_any (b g n V bo go no O : Nat) (w : World) (h : RowAt w b g n V) (ho : RowAt w bo go no O) (hne : bo ≠ g ∧ go ≠ g) :
    Calls Tryd.prog 19 #[.pointer (some ⟨b, 0, none⟩), .pointer (some ⟨bo, 0, none⟩)] w fun e w' => e = .returned (.bool (decide (orV n V O ≠ V))) ∧ RowAt w' b g n (orV n V O) ∧ w.grownBy w' (some g) := by
  have HM := Lib.hid (merge_any b g n V bo go no O 54 (fun x y => x ||| y) (orV n V O) (orV_lt h.2.2.2) (fun x y hx hy => Nat.or_lt_two_pow (n := 64) hx hy) (fun x y wx hx hy => or1_any x y wx hx hy) (enters_of Tryd.func54 (by kernel_rfl) rfl) (fun k _ => orV_word h.2.2.2 k) w h ho hne)
  clear h ho hne
  generalize decide (orV n V O ≠ V) = res at HM ⊢
  go_enter Tryd.func19, Tryd.ntmps19
  go_wp2_with fail
  refine (HM.out).mono ?_
  rintro e w1 ⟨rfl, hr, hg⟩
  have HR := Lib.hid hr
  have HG := Lib.hid hg
  clear hr hg HM
  go_wp2
  go_ret
  exact ⟨rfl, HR.out, HG.out⟩
theorem copy_any (b g n V : Nat) (w : World) (h : RowAt w b g n V) :
    Calls Tryd.prog 18 #[.pointer (some ⟨b, 0, none⟩)] w fun e w' => e = .returned (.pointer (some ⟨w.heap.size + 1, 0, none⟩)) ∧ RowAt w' (w.heap.size + 1) w.heap.size n V ∧ Below w.heap.size w w' := by
  have HL := Lib.hid (len_any b g n V w h)
  have HN := Lib.hid (new_any n w)
  have hn := h.2.2.1
  have hl : rowLen (n : Int) = n := by unfold rowLen; omega
  rw [hl] at HN
  have HR0 := Lib.hid h
  have hb1 := heap_lt h.1
  have hb2 := heap_lt h.2.1
  have hv : orV n 0 V = V := by unfold orV; rw [Nat.zero_or, Nat.mod_eq_of_lt h.2.2.2]
  have HV := Lib.hid hv
  clear h hl hv
  go_enter Tryd.func18, Tryd.ntmps18
  go_wp2_with fail
  refine (HL.out).mono ?_
  rintro e wx ⟨rfl, rfl⟩
  go_wp2_with fail
  refine (HN.out).mono ?_
  rintro e w1 ⟨rfl, hr, hb⟩
  have HO := Lib.hid (or_any (w.heap.size + 1) w.heap.size n 0 b g n V w1 hr (HR0.out.below hb) ⟨by omega, by omega⟩)
  have HB := Lib.hid hb
  clear hr hb HL HN
  go_wp2_with fail
  refine (HO.out).mono ?_
  rintro e w2 ⟨rfl, hr, hg⟩
  have hr2 : RowAt w2 (w.heap.size + 1) w.heap.size n V := by rw [← HV.out]; exact hr
  have HR := Lib.hid hr2
  have HB2 := Lib.hid (HB.out.grown hg HB.out.size (by intro k hk; cases hk; exact Nat.le_refl _))
  clear hr hr2 hg HO
  go_wp2
  go_ret
  exact ⟨rfl, HR.out, HB2.out⟩
end Go.Proofs.YtoakpmbiplmpbaaDoor.Bits
