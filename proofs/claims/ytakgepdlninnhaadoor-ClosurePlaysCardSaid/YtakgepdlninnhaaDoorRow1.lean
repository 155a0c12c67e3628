/-
  Contracts of rows: New, Len, isPlace, Has, Set. Not a statement of the seat.
-/
import Derived.Test.YtakgepdlninnhaaDoorHead1
import Derived.Test.YtakgepdlninnhaaDoorHead15
import Derived.Deep.OwnRows
import Derived.RegionTactic
import Derived.BigRegion
import Derived.Deep.DeepCutAuto
namespace Go.Proofs.YtakgepdlninnhaaDoor.Bits
open Go.ChangeShapes Go.WideShapes Go.ChangeAt Go.RowKit Base
/-- Block b is a row of length n whose set places are V's bits; its words lie in block g. -/
def RowAt (w : World) (b g n V : Nat) : Prop :=
  w.heap[b]? = some (.cells #[.int .i64 n, .slice (some ⟨g, 0, none⟩) ((n + 63) / 64) ((n + 63) / 64)] 75) ∧ w.heap[g]? = some (.cells (wordsOf n V) 86) ∧ n ≤ 65536 ∧ V < 2 ^ n
theorem RowAt.head {w : World} {b g n V : Nat} (h : RowAt w b g n V) : w.cell? ⟨b, 0, none⟩ = some (.int .i64 n) ∧ w.cell? ⟨b, 1, none⟩ = some (.slice (some ⟨g, 0, none⟩) ((n + 63) / 64) ((n + 63) / 64)) := by
  simp [World.cell?, h.1]
theorem RowAt.word {w : World} {b g n V k : Nat} (h : RowAt w b g n V) (hk : k < (n + 63) / 64) : w.cell? ⟨g, k, none⟩ = some (.int .u64 (wrd V k : Nat)) ∧ w.frozen? ⟨g, k, none⟩ = false := by
  have hg := h.2.1
  refine ⟨?_, ?_⟩
  · unfold World.cell?
    rw [hg]
    simpa using wordsOf_get hk
  · simp [World.frozen?, hg]
theorem RowAt.ne_ {w : World} {b g n V : Nat} (h : RowAt w b g n V) : b ≠ g := by
  intro e
  have h1 := h.1
  rw [e, h.2.1] at h1
  simp at h1
theorem RowAt.keep {w w1 : World} {b g n V : Nat} (h : RowAt w b g n V) (hb : w1.heap[b]? = w.heap[b]?) (hg : w1.heap[g]? = w.heap[g]?) : RowAt w1 b g n V := ⟨hb.trans h.1, hg.trans h.2.1, h.2.2⟩
theorem RowAt.below {w w1 : World} {b g n V : Nat} (h : RowAt w b g n V) (hb : Below w.heap.size w w1) : RowAt w1 b g n V := h.keep (hb.block b (heap_lt h.1)) (hb.block g (heap_lt h.2.1))
theorem RowAt.grown {w w1 : World} {b g n V : Nat} {x : Nat} (h : RowAt w b g n V) (hg : w.grownBy w1 (some x)) (hb : b ≠ x) (hg' : g ≠ x) : RowAt w1 b g n V :=
  h.keep (hg.block b (heap_lt h.1) (fun e => hb (Option.some.inj e))) (hg.block g (heap_lt h.2.1) (fun e => hg' (Option.some.inj e)))
theorem RowAt.drewN {w : World} {b g n V : Nat} (h : RowAt w b g n V) (k : Nat) : RowAt (w.drewN k) b g n V := h
theorem RowAt.set_ {w : World} {b g n V i : Nat} (h : RowAt w b g n V) (hi : i < n) : RowAt (w.setCell ⟨g, i / 64, none⟩ (.int .u64 (wrd (V ^^^ 2 ^ i) (i / 64) : Nat))) b g n (V ^^^ 2 ^ i) := by
  refine ⟨?_, ?_, h.2.2.1, xor_lt h.2.2.2 hi⟩
  · rw [Below.heap_setCell _ _ _ _ h.ne_]; exact h.1
  · have hg := h.2.1
    simp only [World.setCell, Array.getElem?_modify, if_true, hg, Option.map_some]
    rw [← wordsOf_set]
    rfl
/-- The length of a row that is made: what was asked, cut to 0 and 65536. -/
def rowLen (n : Int) : Nat := (min (max n 0) 65536).toNat
theorem wordsOf_zero (n : Nat) : madeCells #[.int .u64 0] ((n + 63) / 64) = wordsOf n 0 := by
  unfold madeCells wordsOf
  apply Array.ext_getElem?
  intro k
  simp only [Array.getElem?_map]
  congr 1
  funext j
  show (#[Value.int .u64 0])[j % 1]! = _
  rw [Nat.mod_one]
  simp [wrd]
theorem u64_info : (Tryd.prog.info? 86).map (fun i => (i.zero, i.size, i.bytes)) = some (some (.int .u64 0), 1, 8) := by kernel_rfl
set_option maxHeartbeats 1000000 in
theorem new_any (n : Int) (w : World) : Calls Tryd.prog 29 #[.int .i64 n] w fun e w' => e = .returned (.pointer (some ⟨w.heap.size + 1, 0, none⟩)) ∧ RowAt w' (w.heap.size + 1) w.heap.size (rowLen n) 0 ∧ Below w.heap.size w w' := by
  have hmk := fun (k : Nat) (hk : k ≤ 65536) (wx : World) => run_make_row' (P := Tryd.prog) 72 86 (.int .u64 0) 8 Tryd.underlying72 u64_info rfl .i64 .i64 k (by omega) (by omega) wx
  rcases (show n < 0 ∨ 0 ≤ n ∧ n ≤ 65536 ∨ 65536 < n from by omega) with h | ⟨h1, h2⟩ | h
  · have hm : ∀ wx, (Instr.makeSlice 72 (.int .i64 0) (.int .i64 0)).run Tryd.prog wx = .ok (.slice (some ⟨wx.heap.size, 0, none⟩) 0 0) (wx.alloc (.cells (madeCells #[.int .u64 0] 0) 86)) := hmk 0 (by omega)
    have hl : rowLen n = 0 := by unfold rowLen; omega
    rw [hl]
    clear hmk hl
    go_enter Tryd.func29, Tryd.ntmps29
    go_wp2
    go_ret
    refine ⟨rfl, ⟨heap_alloc_at _ _ _ (by simp), ?_, by decide, by decide⟩, by go_grown⟩
    rw [← wordsOf_zero 0]
    exact heap_alloc_lt _ _ _ _ (heap_alloc_at _ _ _ rfl)
  · obtain ⟨m, rfl⟩ := Int.eq_ofNat_of_zero_le h1
    have hm := hmk ((m + 63) / 64) (by omega)
    have ec : (((m + 63) / 64 : Nat) : Int) = ((m : Int) + 63) / 64 := by omega
    rw [ec] at hm
    have hl : rowLen (m : Int) = m := by unfold rowLen; omega
    rw [hl]
    have hz := wordsOf_zero m
    have HZ := Lib.hid hz
    clear hmk hl ec hz
    go_enter Tryd.func29, Tryd.ntmps29
    go_wp2
    go_ret
    refine ⟨rfl, ⟨heap_alloc_at _ _ _ (by simp), ?_, by omega, Nat.two_pow_pos m⟩, by go_grown⟩
    rw [← HZ.out]
    exact heap_alloc_lt _ _ _ _ (heap_alloc_at _ _ _ rfl)
  · have hm : ∀ wx, (Instr.makeSlice 72 (.int .i64 1024) (.int .i64 1024)).run Tryd.prog wx = .ok (.slice (some ⟨wx.heap.size, 0, none⟩) 1024 1024) (wx.alloc (.cells (madeCells #[.int .u64 0] 1024) 86)) := hmk 1024 (by omega)
    have hl : rowLen n = 65536 := by unfold rowLen; omega
    rw [hl]
    have HZ := Lib.hid (wordsOf_zero 65536)
    clear hmk hl
    go_enter Tryd.func29, Tryd.ntmps29
    go_wp2
    go_ret
    refine ⟨rfl, ⟨heap_alloc_at _ _ _ (by simp), ?_, by decide, Nat.two_pow_pos 65536⟩, by go_grown⟩
    rw [← HZ.out]
    exact heap_alloc_lt _ _ _ _ (heap_alloc_at _ _ _ rfl)
theorem len_any (b g n V : Nat) (w : World) (h : RowAt w b g n V) : Calls Tryd.prog 66 #[.pointer (some ⟨b, 0, none⟩)] w fun e w' => e = .returned (.int .i64 n) ∧ w = w' := by
  obtain ⟨h0, _⟩ := h.head
  clear h
  go_enter Tryd.func66, Tryd.ntmps66
  go_wp2
  go_ret
  exact ⟨rfl, rfl⟩
theorem isPlace_yes (b g n V : Nat) (i : Int) (w : World) (h : RowAt w b g n V) (hi : 0 ≤ i) (hl : i < n) : Calls Tryd.prog 52 #[.pointer (some ⟨b, 0, none⟩), .int .i64 i] w fun e w' => e = .returned (.bool true) ∧ w = w' := by
  obtain ⟨h0, _⟩ := h.head
  clear h
  go_enter Tryd.func52, Tryd.ntmps52
  go_wp2
  go_ret
  exact ⟨rfl, rfl⟩
theorem isPlace_no (b g n V : Nat) (i : Int) (w : World) (h : RowAt w b g n V) (hi : i < 0 ∨ n ≤ i) : Calls Tryd.prog 52 #[.pointer (some ⟨b, 0, none⟩), .int .i64 i] w fun e w' => e = .returned (.bool false) ∧ w = w' := by
  obtain ⟨h0, _⟩ := h.head
  clear h
  by_cases h1 : i < 0
  · go_enter Tryd.func52, Tryd.ntmps52
    go_wp2
    go_ret
    exact ⟨rfl, rfl⟩
  · have h2 : n ≤ i := by omega
    have h3 : 0 ≤ i := by omega
    clear hi
    go_enter Tryd.func52, Tryd.ntmps52
    go_wp2
    go_ret
    exact ⟨ret_bool (decide_eq_false (by omega)), rfl⟩
/-- Is place i set? -/
def hasI (n V : Nat) (i : Int) : Bool := decide (0 ≤ i ∧ i < n) && V.testBit i.toNat
set_option maxHeartbeats 1000000 in
theorem has_any (b g n V : Nat) (i : Int) (w : World) (h : RowAt w b g n V) : Calls Tryd.prog 34 #[.pointer (some ⟨b, 0, none⟩), .int .i64 i] w fun e w' => e = .returned (.bool (hasI n V i)) ∧ w = w' := by
  obtain ⟨h0, h1⟩ := h.head
  have hn := h.2.2.1
  by_cases hi : 0 ≤ i
  · obtain ⟨i, rfl⟩ := Int.eq_ofNat_of_zero_le hi
    by_cases hlt : i < n
    · obtain ⟨h2, _⟩ := h.word (k := i / 64) (by omega)
      have HB := Lib.hid (hasBit V i)
      have e63 := i64_and63 i
      have hr : hasI n V i = V.testBit i := by unfold hasI; rw [decide_eq_true (by omega), Int.toNat_natCast]; rfl
      rw [hr]
      clear hr h
      go_enter Tryd.func34, Tryd.ntmps34
      go_wp2
      go_ret
      exact ⟨ret_bool HB.out, rfl⟩
    · have hr : hasI n V i = false := by unfold hasI; rw [decide_eq_false (by omega)]; rfl
      rw [hr]
      clear hr h
      go_enter Tryd.func34, Tryd.ntmps34
      go_wp2
      go_ret
      exact ⟨rfl, rfl⟩
  · have hr : hasI n V i = false := by unfold hasI; rw [decide_eq_false (by omega)]; rfl
    rw [hr]
    clear hr h
    go_enter Tryd.func34, Tryd.ntmps34
    go_wp2
    go_ret
    exact ⟨rfl, rfl⟩
/-- The row behind Set, as a number. -/
def setV (n V : Nat) (i : Int) (on : Bool) : Nat := if 0 ≤ i ∧ i < n ∧ V.testBit i.toNat ≠ on then V ^^^ 2 ^ i.toNat else V
/-- What Set does: it tells whether the place was otherwise; the row is as asked; other blocks are as they were. -/
def SetPost (b g n V : Nat) (i : Int) (on : Bool) (w : World) (e : Ending) (w' : World) : Prop :=
  e = .returned (.bool (decide (0 ≤ i ∧ i < n ∧ V.testBit i.toNat ≠ on))) ∧ RowAt w' b g n (setV n V i on) ∧ w.grownBy w' (some g)
set_option maxHeartbeats 1000000 in
theorem set_any (b g n V : Nat) (i : Int) (on : Bool) (w : World) (h : RowAt w b g n V) : Calls Tryd.prog 38 #[.pointer (some ⟨b, 0, none⟩), .int .i64 i, .bool on] w (SetPost b g n V i on w) := by
  obtain ⟨h0, h1⟩ := h.head
  have hn := h.2.2.1
  by_cases hin : 0 ≤ i ∧ i < n
  · obtain ⟨hi, hlt⟩ := hin
    obtain ⟨i, rfl⟩ := Int.eq_ofNat_of_zero_le hi
    obtain ⟨h2, h3⟩ := h.word (k := i / 64) (by omega)
    have HH := Lib.hid (has_any b g n V i w h)
    have HI := Lib.hid (isPlace_yes b g n V i w h (by omega) (by omega))
    have hr : hasI n V i = V.testBit i := by unfold hasI; rw [decide_eq_true (by omega), Int.toNat_natCast]; rfl
    rw [hr] at HH
    by_cases hb : V.testBit i = on
    · have HP : Hid (∀ wx, w = wx → SetPost b g n V i on w (.returned (.bool false)) wx) := Lib.hid (by
        rintro wx rfl
        refine ⟨by rw [decide_eq_false (fun hh => hh.2.2 (by rw [Int.toNat_natCast]; exact hb))], ?_, World.grownBy.refl _ _⟩
        unfold setV
        rw [if_neg (fun hh => hh.2.2 (by rw [Int.toNat_natCast]; exact hb))]
        exact h)
      rw [hb] at HH
      generalize SetPost b g n V i on w = Post at HP ⊢
      clear hr h hb
      go_enter Tryd.func38, Tryd.ntmps38
      go_wp2_with fail
      refine (HI.out).mono ?_
      rintro e wx ⟨rfl, rfl⟩
      go_wp2_with fail
      refine (HH.out).mono ?_
      rintro e wx ⟨rfl, rfl⟩
      go_wp2
      exact HP.out _ rfl
    · have hne : (V.testBit i == on) = false := by rw [beq_eq_false_iff_ne]; exact hb
      have hV : setV n V i on = V ^^^ 2 ^ i := by unfold setV; rw [if_pos ⟨by omega, by omega, by rw [Int.toNat_natCast]; exact hb⟩, Int.toNat_natCast]
      have HP : Hid (∀ q, SetPost b g n V i on w (.returned (.bool true)) ((w.setCell ⟨g, i / 64, none⟩ (.int .u64 (wrd (V ^^^ 2 ^ i) (i / 64) : Nat))).drewN q)) := Lib.hid (by
        intro q
        refine ⟨by rw [decide_eq_true ⟨by omega, by omega, by rw [Int.toNat_natCast]; exact hb⟩], ?_, ⟨rfl, rfl, rfl, by simp, fun k _ hk => Below.heap_setCell _ _ _ _ (fun e => hk (by rw [e]))⟩⟩
        rw [hV]
        exact (h.set_ (by omega)).drewN q)
      have hx := xorBit V i
      have hw := wrapBit i
      generalize SetPost b g n V i on w = Post at HP ⊢
      have e63 := i64_and63 i
      clear hr h hb hV
      go_enter Tryd.func38, Tryd.ntmps38
      go_wp2_with fail
      refine (HI.out).mono ?_
      rintro e wx ⟨rfl, rfl⟩
      go_wp2_with fail
      refine (HH.out).mono ?_
      rintro e wx ⟨rfl, rfl⟩
      go_wp2
      go_region
      go_wp2
      exact HP.out 1
  · have HP : Hid (SetPost b g n V i on w (.returned (.bool false)) w) := Lib.hid (by
      refine ⟨by rw [decide_eq_false (fun hh => hin ⟨hh.1, hh.2.1⟩)], ?_, World.grownBy.refl _ _⟩
      unfold setV
      rw [if_neg (fun hh => hin ⟨hh.1, hh.2.1⟩)]
      exact h)
    have HI := Lib.hid (isPlace_no b g n V i w h (by omega))
    generalize SetPost b g n V i on w = Post at HP ⊢
    clear h
    go_enter Tryd.func38, Tryd.ntmps38
    go_wp2_with fail
    refine (HI.out).mono ?_
    rintro e wx ⟨rfl, rfl⟩
    go_wp2
    exact HP.out
end Go.Proofs.YtakgepdlninnhaaDoor.Bits
