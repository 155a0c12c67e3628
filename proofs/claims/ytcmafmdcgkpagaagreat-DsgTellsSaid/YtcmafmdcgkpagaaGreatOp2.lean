/-
  Contracts of the program's operations: Text; the document's Right and Text. Not a statement of the seat.
-/
import Derived.Test.YtcmafmdcgkpagaaGreatOp1
import Derived.Test.YtcmafmdcgkpagaaGreatNuTx
import Derived.Lib.QuietBelow
namespace Go.Proofs.YtcmafmdcgkpagaaGreat.Op
open Go.ChangeShapes Go.WideShapes Go.ChangeAt Go.RowKit Base Nu Pk F Go.Lib
set_option maxHeartbeats 1000000 in
set_option maxRecDepth 100000 in
theorem rightR_any (x : Opr) (w : World) : Calls Tryz.prog 44 #[.agg #[.bool x.rd, .int .i64 x.k, .int .i64 x.t, .int .i64 x.n]] w fun e w' => e = .returned (.bool (rightO x)) ∧ Below w.heap.size w w' := by
  obtain ⟨rd, k, t, n⟩ := x
  cases rd with
  | true =>
    rw [rightO_r]
    have H1 := Lib.hid (fun w => ofR_r k t n w)
    have H2 := Lib.hid (fun w => rightVersion_any t k n w)
    generalize vR t k n = r at H2 ⊢
    go_enter Tryz.func44, Tryz.ntmps44
    go_wp2_with fail
    refine (H1.out _).mono ?_
    rintro e w1 ⟨rfl, hb1⟩
    go_wp2_with fail
    refine (H2.out _).mono ?_
    rintro e w2 ⟨rfl, hb2⟩
    go_wp2
    go_ret
    exact ⟨rfl, bel1 (hb1.trans (hb2.mono hb1.size))⟩
  | false =>
    rw [rightO_w]
    dsimp only
    by_cases h1 : 1 ≤ k
    case neg =>
      rw [decide_eq_false (by omega)]
      go_enter Tryz.func44, Tryz.ntmps44
      go_wp2
      go_ret
      exact ⟨rfl, by go_grown⟩
    by_cases h2 : k ≤ 1048575
    case neg =>
      rw [decide_eq_false (by omega)]
      go_enter Tryz.func44, Tryz.ntmps44
      go_wp2
      go_ret
      exact ⟨rfl, by go_grown⟩
    by_cases h3 : t = 0
    case neg =>
      have h4 : (t == 0) = false := by rw [beq_eq_false_iff_ne]; exact h3
      rw [decide_eq_false (by omega)]
      clear h3
      go_enter Tryz.func44, Tryz.ntmps44
      go_wp2
      go_ret
      exact ⟨rfl, by go_grown⟩
    subst h3
    by_cases h5 : n = 0
    · subst h5
      rw [decide_eq_true (by omega)]
      go_enter Tryz.func44, Tryz.ntmps44
      go_wp2
      go_ret
      exact ⟨rfl, by go_grown⟩
    · have h4 : (n == 0) = false := by rw [beq_eq_false_iff_ne]; exact h5
      rw [decide_eq_false (by omega)]
      clear h5
      go_enter Tryz.func44, Tryz.ntmps44
      go_wp2
      go_ret
      exact ⟨ret_bool (by first | rfl | exact h4 | (simp [h4])), by go_grown⟩
theorem itoaB {n : Int} (h : -9223372036854775808 ≤ n ∧ n ≤ 9223372036854775807) : ((⟨(itoa n).toArray⟩ : ByteArray)).size ≤ 20 := by
  show (itoa n).toArray.size ≤ 20
  simpa using itoa_len h.1 h.2
theorem textW (b : ByteArray) (l : List UInt8) (hb : b = ⟨l.toArray⟩) : (⟨#[119]⟩ ++ b : ByteArray) = ⟨(119 :: l).toArray⟩ := by
  subst hb
  apply ByteArray.ext
  simp
theorem textR1 (b c : ByteArray) (l m : List UInt8) (hb : b = ⟨l.toArray⟩) (hc : c = ⟨m.toArray⟩) : ((⟨#[114]⟩ ++ b ++ ⟨#[64]⟩ ++ c : ByteArray)) = ⟨(114 :: (l ++ 64 :: m)).toArray⟩ := by
  subst hb hc
  apply ByteArray.ext
  simp
theorem textR2 (b c d : ByteArray) (l m k : List UInt8) (hb : b = ⟨l.toArray⟩) (hc : c = ⟨m.toArray⟩) (hd : d = ⟨k.toArray⟩) : ((⟨#[114]⟩ ++ b ++ ⟨#[64]⟩ ++ c ++ ⟨#[46]⟩ ++ d : ByteArray)) = ⟨(114 :: (l ++ 64 :: (m ++ 46 :: k))).toArray⟩ := by
  subst hb hc hd
  apply ByteArray.ext
  simp
theorem ret_str {a b : ByteArray} (h : a = b) : Ending.returned (.string a) = .returned (.string b) := by rw [h]
end Go.Proofs.YtcmafmdcgkpagaaGreat.Op
