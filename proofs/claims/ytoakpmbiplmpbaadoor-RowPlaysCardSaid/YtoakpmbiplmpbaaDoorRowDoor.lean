/-
  What the frames of the rows' statements share: the library's table out of the row's own list, lists of ints that came in, counts of bits. Not a statement of the seat.
-/
import Derived.Test.YtoakpmbiplmpbaaDoorRowLives
import Derived.Test.YtoakpmbiplmpbaaDoorCards
import Derived.Test.YtoakpmbiplmpbaaDoorTie
import Derived.WalkKit
import Derived.ProofKit
import Derived.OpenShut
import Derived.Deep.DeepHandedRow
import Derived.Lib.LaidTab
import Derived.Carry
namespace Go.Proofs.YtoakpmbiplmpbaaDoor.Bits
open Go.ChangeShapes Go.WideShapes Go.ChangeAt Go.RowKit Base
theorem own : ownKnob Tryd.prog.godebug = none := by kernel_rfl
theorem laidOut : laidOutB Tryd.prog = true := by kernel_rfl
theorem gTab : Tryd.prog.globalNamed "math/bits.deBruijn64tab" = some 0 := by kernel_rfl
theorem gTabType : (Tryd.prog.globals[0]?).map (·.type) = some 115 := by kernel_rfl
theorem cellsTab : Tryd.prog.cellsOf 115 = 64 := by kernel_rfl
theorem cellsU8 : Tryd.prog.cellsOf 5 = 1 := by kernel_rfl
theorem cellsInt : Tryd.prog.cellsOf 3 = 1 := by kernel_rfl
/-- What the rows' own lists give: the table's cells. -/
theorem table {W : World} (h : laidMetH Tryd.prog [("math/bits.deBruijn64tab", Rows.laid_math_bits_deBruijn64tab)] W) : TabAt 0 Lib.deBruijn64tab W := by
  have hT : Lib.TabIs Tryd.prog W "math/bits.deBruijn64tab" .u8 (Lib.deBruijn64tab.map fun (z : Nat) => (z : Int)) :=
    Lib.tabIs_of_head (rest := []) gTab gTabType Tryd.underlying115 Tryd.underlying5 cellsU8 cellsTab h
  intro j hj
  have := hT.cell gTab j (by simpa using hj)
  rw [this]
  simp [List.getD_eq_getElem?_getD, hj]
theorem table_lt {W : World} (h : TabAt 0 Lib.deBruijn64tab W) : 0 < W.heap.size := by
  rcases Nat.lt_or_ge 0 W.heap.size with h1 | h1
  · exact h1
  · have := h 0 (by decide)
    simp [World.cell?, Array.getElem?_eq_none h1] at this
section
variable {H : Type} {enc : TypeId × Value → H} {w : World}
set_option maxRecDepth 100000 in
theorem open_list {r : Reach} {b0 : Nat} {v : Value} {d : DataW H} {p : List MemPlace} (hv : Value.okWide Tryd.prog w r b0 26 v) (h : DataW.Trod enc Tryd.prog w 0 (fun _ => true) true 26 v d p) : ∃ zs, Ints 0 w v zs := by
  obtain ⟨a0, len, cap, rfl⟩ := okWide_slice Tryd.underlying26 hv
  obtain ⟨fuel, hf⟩ := h
  rcases open_ints Tryd.underlying26 Tryd.underlying3 cellsInt hf with ⟨hcs, _⟩ | ⟨a, len', cap', zs, hcs, _, hl, hm, hz, _, hcell, _⟩
  · simp [Value.cells] at hcs
    obtain ⟨rfl, rfl, rfl⟩ := hcs
    exact ⟨[], .inl ⟨⟨_, _, rfl⟩, rfl⟩⟩
  · simp [Value.cells] at hcs
    obtain ⟨rfl, rfl, rfl⟩ := hcs
    simp only [if_true] at hz
    by_cases h0 : len = 0
    · subst h0
      exact ⟨[], .inl ⟨⟨_, _, rfl⟩, rfl⟩⟩
    · obtain ⟨b, off, spot⟩ := a
      have hspot : spot = none := by simpa [Addr.add] using World.cell?_spot (hcell 0 (by omega))
      subst hspot
      have cj : ∀ j, j < zs.length → w.cell? ⟨b, off + j, none⟩ = some (.int .i64 (zs.getD j 0)) := fun j hj => by rw [← add_plain]; exact hcell j hj
      have hlt : b < w.heap.size := by
        rcases Nat.lt_or_ge b w.heap.size with h1 | h1
        · exact h1
        · have := cj 0 (by omega)
          simp [World.cell?, Array.getElem?_eq_none h1] at this
      have hlen : (zs.take len).length = len := by rw [List.length_take]; omega
      refine ⟨zs.take len, .inr ⟨b, off, cap, by rw [hlen], Nat.zero_le _, hlt, by rw [hlen]; simp only [maxLen] at hm; omega, fun k hk => ?_⟩⟩
      rw [hlen] at hk
      rw [cj k (by omega)]
      simp [List.getD_eq_getElem?_getD, hk]
end
theorem bit0 (x : Nat) : x % 2 = (x.testBit 0).toNat := by
  rw [Nat.testBit_zero]
  rcases Nat.mod_two_eq_zero_or_one x with h | h <;> rw [h] <;> rfl
theorem bitS (x i : Nat) : (x / 2).testBit i = x.testBit (i + 1) := by rw [Nat.testBit_succ]
theorem pc_step (m x : Nat) : pc (m + 1) x = (x.testBit 0).toNat + pc m (x / 2) := by rw [← bit0, pc_succ]
theorem pc_mono : ∀ (m : Nat) {A B : Nat}, (∀ i, A.testBit i = true → B.testBit i = true) → pc m A ≤ pc m B
  | 0, A, B, _ => by rw [pc_nil, pc_nil]; exact Nat.le_refl _
  | m + 1, A, B, h => by
    have h1 := pc_mono m (A := A / 2) (B := B / 2) fun i => by rw [bitS, bitS]; exact h (i + 1)
    have h0 := h 0
    rw [pc_step, pc_step]
    revert h0
    cases A.testBit 0 <;> cases B.testBit 0 <;> simp <;> omega
theorem pc_or_and : ∀ (m : Nat) {A B C D : Nat}, (∀ i, C.testBit i = (A.testBit i || B.testBit i)) → (∀ i, D.testBit i = (A.testBit i && B.testBit i)) → pc m C + pc m D = pc m A + pc m B
  | 0, A, B, C, D, _, _ => by simp only [pc_nil]
  | m + 1, A, B, C, D, h, h' => by
    have h1 := pc_or_and m (A := A / 2) (B := B / 2) (C := C / 2) (D := D / 2) (fun i => by simp only [bitS]; exact h (i + 1)) (fun i => by simp only [bitS]; exact h' (i + 1))
    have h2 := h 0
    have h3 := h' 0
    simp only [pc_step]
    rw [h2, h3]
    cases A.testBit 0 <;> cases B.testBit 0 <;> simp <;> omega
theorem pc_minus_and : ∀ (m : Nat) {A B C D : Nat}, (∀ i, C.testBit i = (A.testBit i && !B.testBit i)) → (∀ i, D.testBit i = (A.testBit i && B.testBit i)) → pc m C + pc m D = pc m A
  | 0, A, B, C, D, _, _ => by simp only [pc_nil]
  | m + 1, A, B, C, D, h, h' => by
    have h1 := pc_minus_and m (A := A / 2) (B := B / 2) (C := C / 2) (D := D / 2) (fun i => by simp only [bitS]; exact h (i + 1)) (fun i => by simp only [bitS]; exact h' (i + 1))
    have h2 := h 0
    have h3 := h' 0
    simp only [pc_step]
    rw [h2, h3]
    cases A.testBit 0 <;> cases B.testBit 0 <;> simp <;> omega
end Go.Proofs.YtoakpmbiplmpbaaDoor.Bits
