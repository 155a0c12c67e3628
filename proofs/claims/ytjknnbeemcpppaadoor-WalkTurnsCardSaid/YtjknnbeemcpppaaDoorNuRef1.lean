/-
  Contracts of the document's own answers on numbers: Text. Not a statement of the seat.
-/
import Derived.Test.YtjknnbeemcpppaaDoorRows
import Derived.Test.YtjknnbeemcpppaaDoorNuMath
import Derived.WalkKit
import Derived.ProofKit
import Derived.Handy
import Derived.WalkLawsBesides
import Derived.WalkSpells
import Derived.Lib.Hide
import Derived.Laws.IdiomStrings
import Derived.Laws.NewBlocks
namespace Go.Proofs.YtjknnbeemcpppaaDoor.Nu
open Go.ChangeShapes Go.WideShapes Go.ChangeAt Go.RowKit Go.Lib
theorem conv1 (W : World) (U : Nat) : (convert 43 9 (.slice (some ⟨W.heap.size, 0, none⟩) 1 1)).run Tryd.prog (W.alloc (.cells #[.int .u8 (48 + (U : Int) % 10)] 5)) = .ok (.string ⟨#[UInt8.ofNat (48 + U % 10)]⟩) (W.alloc (.cells #[.int .u8 (48 + (U : Int) % 10)] 5)) := by
  have h := run_convert_bytes_back (P := Tryd.prog) (W.alloc (.cells #[.int .u8 (48 + (U : Int) % 10)] 5)) 43 9 5 ⟨W.heap.size, 0, none⟩ 1 [UInt8.ofNat (48 + U % 10)] Tryd.underlying43 Tryd.underlying5 Tryd.underlying9 (fun j hj => by
    have hj0 : j = 0 := by simpa using hj
    subst hj0
    have hx : ((UInt8.ofNat (48 + U % 10)).toNat : Int) = 48 + (U : Int) % 10 := by
      rw [UInt8.toNat_ofNat_of_lt' (show 48 + U % 10 < UInt8.size by have : UInt8.size = 256 := rfl; omega)]
      omega
    have hb : (W.alloc (.cells #[.int .u8 (48 + (U : Int) % 10)] 5)).heap[W.heap.size]? = some (.cells #[.int .u8 (48 + (U : Int) % 10)] 5) := by
      show (W.heap.push _)[W.heap.size]? = _
      rw [Array.getElem?_push, if_pos rfl]
    rw [List.getElem_cons_zero, hx]
    rw [show Addr.add ⟨W.heap.size, 0, none⟩ 0 = ⟨W.heap.size, 0, none⟩ by simp [Addr.add]]
    unfold World.cell?
    rw [hb]
    rfl)
  exact h
theorem below_alloc {w wr : World} (h : Below w.heap.size w wr) (o : Obj) : Below w.heap.size w (wr.alloc o) := h.alloc h.size o
set_option maxHeartbeats 2000000 in
theorem textR_loop (n : Int) (N : Nat) (hN : N < 18446744073709551616) (h0 : 0 ≤ n) (hn : n = (N : Int)) (w : World) :
    Calls Tryd.prog 34 #[.int .i64 n] w fun e w' => e = .returned (.string ⟨(decDigits N).toArray⟩) ∧ Below w.heap.size w w' := by
  have HS := Lib.hid (TextP.start N)
  have HB0 := Lib.hid (Below.refl w.heap.size w)
  subst hn
  go_enter Tryd.func34, Tryd.ntmps34
  go_wp2
  go_loopw [3, 4, 5] (fun s3 s4 s5 wr => ∃ (i : Int) (j U : Nat) (b : ByteArray), i ≤ 20 ∧ s5 = .int .i64 i ∧ s3 = .int .u64 (U : Int) ∧ s4 = .string b ∧ Hid (i = j ∧ TextP N j U b.data.toList) ∧ Hid (Below w.heap.size w wr)) (fun s3 _ s5 _ => (intOf s3).toNat + (if intOf s5 = 0 then 1 else 0))
  case atStart => exact ⟨0, 0, N, _, by omega, rfl, rfl, rfl, Lib.hid ⟨rfl, HS.out⟩, HB0⟩
  case round =>
    obtain ⟨i, j, U, b, hi20, rfl, rfl, rfl, HT, HB⟩ := hrel
    have hU : U < 18446744073709551616 := by have := HT.out.2.1; have h1 : 1 ≤ 10 ^ j := Nat.one_le_pow _ _ (by decide); have h2 : U * 1 ≤ U * 10 ^ j := Nat.mul_le_mul_left _ h1; omega
    have hz := HB.out.size
    have hbs : b.size = j := by have := HT.out.2.2.1; simpa using this
    have hcv := conv1 wr U
    have HB1 := Lib.hid (below_alloc HB.out (.cells #[.int .u8 (48 + (U : Int) % 10)] 5))
    have HST : Hid (i = 0 ∨ 0 < U → TextP N (j + 1) (U / 10) ((⟨#[UInt8.ofNat (48 + U % 10)]⟩ ++ b : ByteArray).data.toList)) := Lib.hid fun h => by
      have := HT.out.2.step (by have := HT.out.1; omega)
      simpa using this
    generalize UInt8.ofNat (48 + U % 10) = c at hcv HST
    by_cases hi : i = 0
    · subst hi
      have hsz : b.size ≤ 20 := by have := HT.out.1; omega
      have HS2 : Hid ((0 : Int) + 1 = ((j + 1 : Nat) : Int) ∧ TextP N (j + 1) (U / 10) ((⟨#[c]⟩ ++ b : ByteArray).data.toList)) := Lib.hid ⟨by have := HT.out.1; omega, HST.out (.inl rfl)⟩
      clear HT HST hz HB hbs
      go_wp2_with fail
      go_roundw
      case rel => exact ⟨1, j + 1, U / 10, _, by omega, rfl, by go_num, rfl, HS2, HB1⟩
      case measure => simp [intOf]; omega
    · have hi2 : (i == 0) = false := by rw [beq_eq_false_iff_ne]; exact hi
      by_cases hU0 : U = 0
      · subst hU0
        have hd := HT.out.2.done (by have := HT.out.1; omega)
        have hb : b = ⟨(decDigits N).toArray⟩ := by
          rw [← hd]
        subst hb
        clear HT HST hz hcv HB1 hbs
        go_wp2
        go_ret
        exact ⟨rfl, HB.out⟩
      · have hfew := HT.out.2.few (by omega) hN
        have hi3 : 0 ≤ i := by have := HT.out.1; omega
        have hi4 : i < 20 := by have := HT.out.1; omega
        have hpos : 0 < U := by omega
        have hsz : b.size ≤ 20 := by have := HT.out.1; omega
        have HS2 : Hid (i + 1 = ((j + 1 : Nat) : Int) ∧ TextP N (j + 1) (U / 10) ((⟨#[c]⟩ ++ b : ByteArray).data.toList)) := Lib.hid ⟨by have := HT.out.1; omega, HST.out (.inr hpos)⟩
        clear HT HST hz HB hU0 hbs
        go_wp2_with fail
        go_roundw
        case rel => exact ⟨i + 1, j + 1, U / 10, _, by omega, rfl, by go_num, rfl, HS2, HB1⟩
        case measure =>
          have hi5 : ¬ i + 1 = 0 := by omega
          simp [intOf, hi, hi5]; omega
set_option maxHeartbeats 2000000 in
theorem textR_neg (n : Int) (N : Nat) (hN : N < 18446744073709551616) (h0 : n < 0) (hlo : -9223372036854775808 ≤ n) (hn : n = -(N : Int)) (w : World) :
    Calls Tryd.prog 34 #[.int .i64 n] w fun e w' => e = .returned (.string ⟨(45 :: decDigits N).toArray⟩) ∧ Below w.heap.size w w' := by
  have HS := Lib.hid (TextP.start N)
  have HB0 := Lib.hid (Below.refl w.heap.size w)
  have hw1 : IntKind.u64.wrap n = 18446744073709551616 - (N : Int) := by rw [IntKind.wrap_u64]; omega
  have hw2 : IntKind.u64.wrap (-(18446744073709551616 - (N : Int))) = (N : Int) := by rw [IntKind.wrap_u64]; omega
  clear hn hlo
  go_enter Tryd.func34, Tryd.ntmps34
  go_wp2
  go_loopw [3, 4, 5] (fun s3 s4 s5 wr => ∃ (i : Int) (j U : Nat) (b : ByteArray), i ≤ 20 ∧ s5 = .int .i64 i ∧ s3 = .int .u64 (U : Int) ∧ s4 = .string b ∧ Hid (i = j ∧ TextP N j U b.data.toList) ∧ Hid (Below w.heap.size w wr)) (fun s3 _ s5 _ => (intOf s3).toNat + (if intOf s5 = 0 then 1 else 0))
  case atStart => exact ⟨0, 0, N, _, by omega, rfl, rfl, rfl, Lib.hid ⟨rfl, HS.out⟩, HB0⟩
  case round =>
    obtain ⟨i, j, U, b, hi20, rfl, rfl, rfl, HT, HB⟩ := hrel
    have hU : U < 18446744073709551616 := by have := HT.out.2.1; have h1 : 1 ≤ 10 ^ j := Nat.one_le_pow _ _ (by decide); have h2 : U * 1 ≤ U * 10 ^ j := Nat.mul_le_mul_left _ h1; omega
    have hz := HB.out.size
    have hbs : b.size = j := by have := HT.out.2.2.1; simpa using this
    have hcv := conv1 wr U
    have HB1 := Lib.hid (below_alloc HB.out (.cells #[.int .u8 (48 + (U : Int) % 10)] 5))
    have HST : Hid (i = 0 ∨ 0 < U → TextP N (j + 1) (U / 10) ((⟨#[UInt8.ofNat (48 + U % 10)]⟩ ++ b : ByteArray).data.toList)) := Lib.hid fun h => by
      have := HT.out.2.step (by have := HT.out.1; omega)
      simpa using this
    generalize UInt8.ofNat (48 + U % 10) = c at hcv HST
    by_cases hi : i = 0
    · subst hi
      have hsz : b.size ≤ 20 := by have := HT.out.1; omega
      have HS2 : Hid ((0 : Int) + 1 = ((j + 1 : Nat) : Int) ∧ TextP N (j + 1) (U / 10) ((⟨#[c]⟩ ++ b : ByteArray).data.toList)) := Lib.hid ⟨by have := HT.out.1; omega, HST.out (.inl rfl)⟩
      clear HT HST hz HB hbs
      go_wp2_with fail
      go_roundw
      case rel => exact ⟨1, j + 1, U / 10, _, by omega, rfl, by go_num, rfl, HS2, HB1⟩
      case measure => simp [intOf]; omega
    · have hi2 : (i == 0) = false := by rw [beq_eq_false_iff_ne]; exact hi
      by_cases hU0 : U = 0
      · subst hU0
        have hd := HT.out.2.done (by have := HT.out.1; omega)
        have hl20 : (decDigits N).length ≤ 20 := by have := HT.out.1; rw [← hd]; have h2 := HT.out.2.2.1; omega
        have hb : b = ⟨(decDigits N).toArray⟩ := by
          rw [← hd]
        have hsz : b.size ≤ 20 := by
          rw [hb]
          show (decDigits N).toArray.size ≤ 20
          simpa using hl20
        have HE : Hid ((⟨#[45]⟩ ++ b : ByteArray) = ⟨(45 :: decDigits N).toArray⟩) := Lib.hid (by rw [hb]; rfl)
        clear hb hd hl20
        clear HT HST hz hcv HB1 hbs
        go_wp2
        go_ret
        exact ⟨by rw [HE.out]; rfl, HB.out⟩
      · have hfew := HT.out.2.few (by omega) hN
        have hi3 : 0 ≤ i := by have := HT.out.1; omega
        have hi4 : i < 20 := by have := HT.out.1; omega
        have hpos : 0 < U := by omega
        have hsz : b.size ≤ 20 := by have := HT.out.1; omega
        have HS2 : Hid (i + 1 = ((j + 1 : Nat) : Int) ∧ TextP N (j + 1) (U / 10) ((⟨#[c]⟩ ++ b : ByteArray).data.toList)) := Lib.hid ⟨by have := HT.out.1; omega, HST.out (.inr hpos)⟩
        clear HT HST hz HB hU0 hbs
        go_wp2_with fail
        go_roundw
        case rel => exact ⟨i + 1, j + 1, U / 10, _, by omega, rfl, by go_num, rfl, HS2, HB1⟩
        case measure =>
          have hi5 : ¬ i + 1 = 0 := by omega
          simp [intOf, hi, hi5]; omega
theorem textR_any (n : Int) (h0 : -9223372036854775808 ≤ n) (h1 : n ≤ 9223372036854775807) (w : World) :
    Calls Tryd.prog 34 #[.int .i64 n] w fun e w' => e = .returned (.string ⟨(itoa n).toArray⟩) ∧ Below w.heap.size w w' := by
  unfold itoa
  by_cases hn : n < 0
  · rw [if_pos hn]
    exact textR_neg n n.natAbs (by omega) hn h0 (by omega) w
  · rw [if_neg hn]
    exact textR_loop n n.toNat (by omega) (by omega) (by omega) w
end Go.Proofs.YtjknnbeemcpppaaDoor.Nu
