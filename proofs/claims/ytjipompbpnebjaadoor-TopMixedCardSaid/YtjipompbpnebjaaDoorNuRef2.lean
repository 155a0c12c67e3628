/-
  Contracts of the document's own answers on numbers: Words, Add, Mul. Not a statement of the seat.
-/
import Derived.Test.YtjipompbpnebjaaDoorNuRef1
import Derived.Test.YtjipompbpnebjaaDoorLst
namespace Go.Proofs.YtjipompbpnebjaaDoor.Nu
open Go.ChangeShapes Go.WideShapes Go.ChangeAt Go.RowKit Go.Lib Lst
theorem digs_le : ∀ k u : Nat, u < 10 ^ (k + 1) → nDigits u ≤ k + 1
  | 0, u, h => by rw [nDigits_small (by simpa using h)]; omega
  | k + 1, u, h => by
    by_cases h1 : u < 10
    · rw [nDigits_small h1]; omega
    · rw [nDigits_big h1]
      have := digs_le k (u / 10) (by rw [Nat.pow_succ] at h; omega)
      omega
theorem itoa_len {n : Int} (h0 : -9223372036854775808 ≤ n) (h1 : n ≤ 9223372036854775807) : (itoa n).length ≤ 20 := by
  unfold itoa
  split
  · rw [List.length_cons, decDigits_length]
    have := digs_le 18 n.natAbs (by have : (10 : Nat) ^ (18 + 1) = 10000000000000000000 := by decide
                                    omega)
    omega
  · rw [decDigits_length]
    have := digs_le 18 n.toNat (by have : (10 : Nat) ^ (18 + 1) = 10000000000000000000 := by decide
                                   omega)
    omega
/-- The texts of the first k, with blanks between. -/
def wordsK (xs : List Int) : Nat → List UInt8
  | 0 => []
  | k + 1 => (if 0 < k then wordsK xs k ++ [32] else wordsK xs k) ++ itoa (xs.getD k 0)
theorem wordsK_len {xs : List Int} (hr : ∀ x ∈ xs, -9223372036854775808 ≤ x ∧ x ≤ 9223372036854775807) : ∀ k, k ≤ xs.length → (wordsK xs k).length ≤ 21 * k
  | 0, _ => by simp [wordsK]
  | k + 1, h => by
    have ih := wordsK_len hr k (by omega)
    have hx : xs.getD k 0 ∈ xs := by
      rw [List.getD_eq_getElem?_getD, List.getElem?_eq_getElem (by omega)]
      exact List.getElem_mem _
    have hl := itoa_len (hr _ hx).1 (hr _ hx).2
    unfold wordsK
    split <;> simp only [List.length_append, List.length_cons, List.length_nil] <;> omega
set_option maxHeartbeats 2000000 in
theorem wordsR_any {base : Nat} {v : Value} {xs : List Int} (w : World) (h : Ints base w v xs) (hr : ∀ x ∈ xs, -9223372036854775808 ≤ x ∧ x ≤ 9223372036854775807) (hl : xs.length ≤ 1000000) :
    Calls Tryd.prog 14 #[v] w fun e w' => e = .returned (.string ⟨(wordsK xs xs.length).toArray⟩) ∧ Below w.heap.size w w' := by
  obtain ⟨p, c, rfl, _, hc⟩ := h.open_
  have HC := Lib.hid hc
  have HR := Lib.hid hr
  have HLN : Hid (∀ k, k ≤ xs.length → (wordsK xs k).length ≤ 21 * k) := Lib.hid (wordsK_len hr)
  have HB0 := Lib.hid (Below.refl w.heap.size w)
  have HS : Hid (∀ k, wordsK xs (k + 1) = (if 0 < k then wordsK xs k ++ [32] else wordsK xs k) ++ itoa (xs.getD k 0)) := Lib.hid fun k => rfl
  have HF : Hid (∀ b : ByteArray, b.data.toList = wordsK xs xs.length → b = ⟨(wordsK xs xs.length).toArray⟩) := Lib.hid fun b hb => by rw [← hb]
  clear hc h hr
  go_enter Tryd.func14, Tryd.ntmps14
  go_wp2_with fail
  go_loopw [3, 8] (fun s3 s8 wr => ∃ (k : Nat) (b : ByteArray), s8 = .int .i64 k ∧ k ≤ xs.length ∧ s3 = .string b ∧ Hid (b.data.toList = wordsK xs k) ∧ Hid (Below w.heap.size w wr)) (fun _ s8 _ => xs.length - (intOf s8).toNat)
  case atStart => exact ⟨0, _, rfl, Nat.zero_le _, rfl, Lib.hid rfl, HB0⟩
  case round =>
    obtain ⟨k, b, rfl, hk, rfl, HK, HB⟩ := hrel
    have hbs : b.size ≤ 21000000 := by have h1 := HLN.out k hk; rw [← HK.out] at h1; have h2 : b.size ≤ 21 * k := by simpa using h1
                                       omega
    by_cases hlt : k < xs.length
    · obtain ⟨g', o', rfl, _, hg, hcell⟩ := HC.out k hlt
      have hcell := (HB.out.cell (p := ⟨g', o' + k, none⟩) hg).trans hcell
      have hmem : xs.getD k 0 ∈ xs := by
        rw [List.getD_eq_getElem?_getD, List.getElem?_eq_getElem hlt]
        exact List.getElem_mem _
      have hrx := HR.out _ hmem
      have HE := Lib.hid (HS.out k)
      have HT := Lib.hid (fun wx => textR_any (xs.getD k 0) hrx.1 hrx.2 wx)
      have hil := itoa_len hrx.1 hrx.2
      clear hg hmem hrx
      generalize xs.getD k 0 = x at hcell HE HT hil
      generalize itoa x = t at HE HT hil
      by_cases hk0 : 0 < k
      · have HE2 : Hid (∀ B : ByteArray, B = b ++ ⟨#[32]⟩ ++ ⟨t.toArray⟩ → B.data.toList = wordsK xs (k + 1)) := Lib.hid fun B hB => by
          rw [HE.out, if_pos hk0, hB, ← HK.out]; simp
        clear HE HK
        go_wp2_with fail
        refine (HT.out _).mono ?_
        rintro e w2 ⟨rfl, hb⟩
        have HB2 := Lib.hid (HB.out.trans (hb.mono HB.out.size))
        clear hb HB
        go_wp2_with fail
        go_roundw
        case rel => exact ⟨k + 1, _, by go_num, by omega, rfl, Lib.hid (HE2.out _ rfl), HB2⟩
        case measure => simp [intOf]; omega
      · obtain rfl : k = 0 := by omega
        rw [Nat.add_zero] at hcell
        have HE2 : Hid (∀ B : ByteArray, B = b ++ ⟨t.toArray⟩ → B.data.toList = wordsK xs (0 + 1)) := Lib.hid fun B hB => by
          rw [HE.out, if_neg hk0, hB, ← HK.out]; simp
        clear HE HK
        go_wp2_with fail
        refine (HT.out _).mono ?_
        rintro e w2 ⟨rfl, hb⟩
        have HB2 := Lib.hid (HB.out.trans (hb.mono HB.out.size))
        clear hb HB
        go_wp2_with fail
        go_roundw
        case rel => exact ⟨0 + 1, _, rfl, by omega, rfl, Lib.hid (HE2.out _ rfl), HB2⟩
        case measure => simp [intOf]; omega
    · have e : k = xs.length := by omega
      subst e
      have hb := HF.out _ HK.out
      subst hb
      clear HS HLN HF HK HC HR hbs
      go_wp2
      go_ret
      exact ⟨rfl, HB.out⟩
/-- Does a number fit into an int? -/
def fits (x : Int) : Bool := decide (-9223372036854775808 ≤ x ∧ x ≤ 9223372036854775807)
theorem addR_any (a b : Int) (a0 : -9223372036854775808 ≤ a) (a1 : a ≤ 9223372036854775807) (b0 : -9223372036854775808 ≤ b) (b1 : b ≤ 9223372036854775807) (w : World) :
    Calls Tryd.prog 16 #[.int .i64 a, .int .i64 b] w fun e w' => e = .returned (.tuple #[.int .i64 (if fits (a + b) = true then a + b else 0), .bool (fits (a + b))]) ∧ w = w' := by
  by_cases h : fits (a + b) = true
  · rw [if_pos h, h]
    have hf := of_decide_eq_true h
    obtain ⟨f0, f1⟩ := hf
    have hw : IntKind.i64.wrap (a + b) = a + b := by rw [IntKind.wrap_i64]; omega
    clear h
    rcases Int.lt_trichotomy b 0 with hb | hb | hb
    · have h1 : ¬ a < -9223372036854775808 - b := by omega
      have hs : IntKind.i64.wrap (-9223372036854775808 - b) = -9223372036854775808 - b := by rw [IntKind.wrap_i64]; omega
      go_enter Tryd.func16, Tryd.ntmps16
      go_wp2
      go_ret2
      exact ⟨rfl, rfl⟩
    · subst hb
      go_enter Tryd.func16, Tryd.ntmps16
      go_wp2
      go_ret2
      exact ⟨by simp, rfl⟩
    · have h1 : ¬ 9223372036854775807 - b < a := by omega
      go_enter Tryd.func16, Tryd.ntmps16
      go_wp2
      go_ret2
      exact ⟨rfl, rfl⟩
  · rw [if_neg h, show fits (a + b) = false by simpa using h]
    have hf : ¬ (-9223372036854775808 ≤ a + b ∧ a + b ≤ 9223372036854775807) := fun hh => h (decide_eq_true hh)
    clear h
    by_cases hb : b < 0
    · have h1 : a < -9223372036854775808 - b := by omega
      have hs : IntKind.i64.wrap (-9223372036854775808 - b) = -9223372036854775808 - b := by rw [IntKind.wrap_i64]; omega
      clear hf
      go_enter Tryd.func16, Tryd.ntmps16
      go_wp2
      go_ret2
      exact ⟨rfl, rfl⟩
    · have hb1 : 0 < b := by omega
      have h1 : 9223372036854775807 - b < a := by omega
      clear hf
      go_enter Tryd.func16, Tryd.ntmps16
      go_wp2
      go_ret2
      exact ⟨rfl, rfl⟩
end Go.Proofs.YtjipompbpnebjaaDoor.Nu
