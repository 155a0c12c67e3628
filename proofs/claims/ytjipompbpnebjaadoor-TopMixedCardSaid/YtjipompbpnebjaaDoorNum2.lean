/-
  Contracts of the program's numbers: Text, Words, Add, Mul. Not a statement of the seat.
-/
import Derived.Test.YtjipompbpnebjaaDoorNum1
import Derived.Test.YtjipompbpnebjaaDoorSb
import Derived.Lib.SmallJoins
namespace Go.Proofs.YtjipompbpnebjaaDoor.Nu
open Go.ChangeShapes Go.WideShapes Go.ChangeAt Go.RowKit Go.Lib Lst Sb
/-- The library's table of powers of ten is as its text lays it. -/
def Pow (w : World) : Prop := Lib.TabIs Tryd.prog w "internal/strconv.uint64pow10" .u64 Lib.pow10Tab
theorem gPow : Tryd.prog.globalNamed "internal/strconv.uint64pow10" = some 0 := by kernel_rfl
theorem Pow.below {w w' : World} (h : Pow w) (hb : Below w.heap.size w w') : Pow w' := Go.Joins.tab_stays gPow h hb (Nat.le_refl _)
theorem below_grow (w : World) (k : Nat) (os : Array Obj) : Below w.heap.size w (Go.Sort.grow (w.drewN k) os) :=
  ⟨rfl, rfl, rfl, by show w.heap.size ≤ (w.heap ++ os).size; simp, fun b hb => by show (w.heap ++ os)[b]? = w.heap[b]?; rw [Array.getElem?_append_left hb]⟩
/-- What a call that tells a text, and may make memory, leaves. -/
def TextPost (l : List UInt8) (w : World) (e : Ending) (w' : World) : Prop := e = .returned (.string ⟨l.toArray⟩) ∧ Below w.heap.size w w'
theorem text_any (n : Int) (h0 : -9223372036854775808 ≤ n) (h1 : n ≤ 9223372036854775807) (w : World) (hp : Pow w) :
    Calls Tryd.prog 11 #[.int .i64 n] w (TextPost (itoa n) w) := by
  have HI := Lib.hid (Tryd.strconv_Itoa n h0 h1 w hp)
  go_enter Tryd.func11, Tryd.ntmps11
  go_wp2_with fail
  refine (HI.out).mono ?_
  rintro e w1 ⟨rfl, k, os, rfl⟩
  go_wp2
  go_ret
  exact ⟨rfl, below_grow w k os⟩
set_option maxHeartbeats 2000000 in
theorem words_any {base : Nat} {v : Value} {xs : List Int} (w : World) (h : Ints base w v xs) (hr : ∀ x ∈ xs, -9223372036854775808 ≤ x ∧ x ≤ 9223372036854775807) (hl : xs.length ≤ 1000000) (hp : Pow w) :
    Calls Tryd.prog 13 #[v] w (TextPost (wordsK xs xs.length) w) := by
  obtain ⟨p, c, rfl, _, hc⟩ := h.open_
  have HC := Lib.hid hc
  have HR := Lib.hid hr
  have HPW := Lib.hid hp
  have HLN : Hid (∀ k, k ≤ xs.length → (wordsK xs k).length ≤ 21 * k) := Lib.hid (wordsK_len hr)
  have HB0 : Hid (SbAt w.heap.size w.heap.size (wordsK xs 0) (w.alloc (.cells #[.pointer none, .slice none 0 0] 47)) ∧ Below w.heap.size w (w.alloc (.cells #[.pointer none, .slice none 0 0] 47))) := Lib.hid ⟨sb_fresh w, (Below.refl _ _).alloc (Nat.le_refl _) _⟩
  have HS : Hid (∀ k, wordsK xs (k + 1) = (if 0 < k then wordsK xs k ++ [32] else wordsK xs k) ++ itoa (xs.getD k 0)) := Lib.hid fun k => rfl
  clear hc h hr hp
  go_enter Tryd.func13, Tryd.ntmps13
  go_wp2_with fail
  go_loopw [4, 5, 8] (fun _ _ s8 wr => ∃ k : Nat, s8 = .int .i64 k ∧ k ≤ xs.length ∧ Hid (SbAt w.heap.size w.heap.size (wordsK xs k) wr ∧ Below w.heap.size w wr)) (fun _ _ s8 _ => xs.length - (RowKit.intOf s8).toNat)
  case atStart => exact ⟨0, rfl, Nat.zero_le _, HB0⟩
  case round =>
    obtain ⟨k, rfl, hk, HB⟩ := hrel
    have hbs := HLN.out k hk
    by_cases hlt : k < xs.length
    · obtain ⟨g', o', rfl, _, hg, hcell⟩ := HC.out k hlt
      have hcell := (HB.out.2.cell (p := ⟨g', o' + k, none⟩) hg).trans hcell
      have hmem : xs.getD k 0 ∈ xs := by
        rw [List.getD_eq_getElem?_getD, List.getElem?_eq_getElem hlt]
        exact List.getElem_mem _
      have hrx := HR.out _ hmem
      have HE := Lib.hid (HS.out k)
      have HT := Lib.hid (fun wx => text_any (xs.getD k 0) hrx.1 hrx.2 wx)
      have hil := itoa_len hrx.1 hrx.2
      clear hg hmem hrx
      generalize xs.getD k 0 = x at hcell HE HT hil
      generalize itoa x = t at HE HT hil
      by_cases hk0 : 0 < k
      · have HW := Lib.hid (byte_any w.heap.size w.heap.size _ 32 wr HB.out.1 (by omega) HB.out.2.size)
        have HE2 : Hid (wordsK xs k ++ [32] ++ (⟨t.toArray⟩ : ByteArray).data.toList = wordsK xs (k + 1)) := Lib.hid (by rw [HE.out, if_pos hk0])
        go_wp2_with fail
        refine (HW.out).mono ?_
        rintro e w2 ⟨rfl, h1, h2⟩
        have HB2 : Hid (SbAt w.heap.size w.heap.size (wordsK xs k ++ [32]) w2 ∧ Below w.heap.size w w2) := Lib.hid ⟨h1, HB.out.2.trans h2⟩
        clear h1 h2 HW HB
        go_wp2_with fail
        refine (HT.out _ (HPW.out.below HB2.out.2)).mono ?_
        rintro e w3 ⟨rfl, h1⟩
        have HB3 : Hid (SbAt w.heap.size w.heap.size (wordsK xs k ++ [32]) w3 ∧ Below w.heap.size w w3) := Lib.hid ⟨sb_below HB2.out.1 h1, HB2.out.2.trans (h1.mono HB2.out.2.size)⟩
        clear h1 HB2
        have hts : (⟨t.toArray⟩ : ByteArray).size ≤ 20 := by
          show t.toArray.size ≤ 20
          simpa using hil
        have HW := Lib.hid (string_any w.heap.size w.heap.size _ ⟨t.toArray⟩ w3 HB3.out.1 (by rw [List.length_append, List.length_singleton]; omega) HB3.out.2.size)
        rw [HE2.out] at HW
        clear hts
        go_wp2_with fail
        refine (HW.out).mono ?_
        rintro e w4 ⟨rfl, h1, h2⟩
        have HB4 : Hid (SbAt w.heap.size w.heap.size (wordsK xs (k + 1)) w4 ∧ Below w.heap.size w w4) := Lib.hid ⟨h1, HB3.out.2.trans h2⟩
        clear h1 h2 HW HB3
        go_wp2_with fail
        go_roundw
        case rel => exact ⟨k + 1, by go_num, by omega, HB4⟩
        case measure => simp [RowKit.intOf]; omega
      · obtain rfl : k = 0 := by omega
        rw [Nat.add_zero] at hcell
        have HE2 : Hid (wordsK xs 0 ++ (⟨t.toArray⟩ : ByteArray).data.toList = wordsK xs (0 + 1)) := Lib.hid (by rw [HE.out, if_neg hk0])
        go_wp2_with fail
        refine (HT.out _ (HPW.out.below HB.out.2)).mono ?_
        rintro e w3 ⟨rfl, h1⟩
        have HB3 : Hid (SbAt w.heap.size w.heap.size (wordsK xs 0) w3 ∧ Below w.heap.size w w3) := Lib.hid ⟨sb_below HB.out.1 h1, HB.out.2.trans (h1.mono HB.out.2.size)⟩
        clear h1 HB
        have hts : (⟨t.toArray⟩ : ByteArray).size ≤ 20 := by
          show t.toArray.size ≤ 20
          simpa using hil
        have HW := Lib.hid (string_any w.heap.size w.heap.size _ ⟨t.toArray⟩ w3 HB3.out.1 (by omega) HB3.out.2.size)
        rw [HE2.out] at HW
        clear hts
        go_wp2_with fail
        refine (HW.out).mono ?_
        rintro e w4 ⟨rfl, h1, h2⟩
        have HB4 : Hid (SbAt w.heap.size w.heap.size (wordsK xs (0 + 1)) w4 ∧ Below w.heap.size w w4) := Lib.hid ⟨h1, HB3.out.2.trans h2⟩
        clear h1 h2 HW HB3
        go_wp2_with fail
        go_roundw
        case rel => exact ⟨0 + 1, rfl, by omega, HB4⟩
        case measure => simp [RowKit.intOf]; omega
    · have e : k = xs.length := by omega
      subst e
      have HW := Lib.hid (Tryd.Builder_String_any w.heap.size w.heap.size _ wr HB.out.1 HB.out.2.size)
      go_wp2_with fail
      refine (HW.out).mono ?_
      rintro e w2 ⟨rfl, h2⟩
      go_wp2
      go_ret
      exact ⟨rfl, HB.out.2.trans h2⟩
end Go.Proofs.YtjipompbpnebjaaDoor.Nu
