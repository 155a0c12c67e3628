/-
  Lists of edges in memory, and pack.Sort on them. Not a statement of the seat.
-/
import Derived.Test.YtoakpmbiplmpbaaDoorTpMath
namespace Go.Proofs.YtoakpmbiplmpbaaDoor.Pk
open Go.ChangeShapes Go.WideShapes Go.ChangeAt Go.RowKit Base Go.Shelf Go.Lib Go.Sort
abbrev zE : E := (0, 0, 0, 0)
/-- The slice v holds the edges xs. -/
def Eds (w : World) (v : Value) (xs : List E) : Prop :=
  ((∃ p c, v = .slice p 0 c) ∧ xs = []) ∨ ∃ g o c, v = .slice (some ⟨g, o, none⟩) xs.length c ∧ g < w.heap.size ∧ xs.length ≤ 9223372036854775807 ∧ ∀ k, k < xs.length →
    w.cell? ⟨g, o + k * 4, none⟩ = some (.int .i64 (xs.getD k zE).1) ∧ w.cell? ⟨g, o + k * 4 + 1, none⟩ = some (.int .i64 (xs.getD k zE).2.1) ∧ w.cell? ⟨g, o + k * 4 + 2, none⟩ = some (.int .i64 (xs.getD k zE).2.2.1) ∧ w.cell? ⟨g, o + k * 4 + 3, none⟩ = some (.int .i64 (xs.getD k zE).2.2.2)
theorem Eds.below {w w1 : World} {v : Value} {xs : List E} (h : Eds w v xs) (hb : Below w.heap.size w w1) : Eds w1 v xs := by
  rcases h with h | ⟨g, o, c, hv, h1, h2, h3⟩
  · exact .inl h
  · refine .inr ⟨g, o, c, hv, Nat.lt_of_lt_of_le h1 hb.size, h2, fun k hk => ?_⟩
    obtain ⟨a, b, c, d⟩ := h3 k hk
    exact ⟨(hb.cell (p := ⟨g, _, none⟩) h1).trans a, (hb.cell (p := ⟨g, _, none⟩) h1).trans b, (hb.cell (p := ⟨g, _, none⟩) h1).trans c, (hb.cell (p := ⟨g, _, none⟩) h1).trans d⟩
theorem Eds.open_ {w : World} {v : Value} {xs : List E} (h : Eds w v xs) : ∃ p c, v = .slice p xs.length c ∧ xs.length ≤ 9223372036854775807 ∧ ∀ k, k < xs.length → ∃ g o, p = some ⟨g, o, none⟩ ∧ g < w.heap.size ∧
    w.cell? ⟨g, o + k * 4, none⟩ = some (.int .i64 (xs.getD k zE).1) ∧ w.cell? ⟨g, o + k * 4 + 1, none⟩ = some (.int .i64 (xs.getD k zE).2.1) ∧ w.cell? ⟨g, o + k * 4 + 2, none⟩ = some (.int .i64 (xs.getD k zE).2.2.1) ∧ w.cell? ⟨g, o + k * 4 + 3, none⟩ = some (.int .i64 (xs.getD k zE).2.2.2) := by
  rcases h with ⟨⟨p, c, hv⟩, rfl⟩ | ⟨g, o, c, hv, h1, h2, h3⟩
  · exact ⟨p, c, hv, by simp, fun k hk => absurd hk (by simp)⟩
  · exact ⟨_, c, hv, h2, fun k hk => ⟨g, o, rfl, h1, h3 k hk⟩⟩
/-- What a call that tells a new list of edges leaves. -/
def EdsNew (xs : List E) (w : World) (e : Ending) (w' : World) : Prop := (∃ v, e = .returned v ∧ Eds w' v xs) ∧ Below w.heap.size w w'
/-- A slice of no element. -/
def NoneAt (w : World) (e : Ending) (w' : World) : Prop := ∃ p c, e = .returned (.slice p 0 c) ∧ Below w.heap.size w w'
set_option maxRecDepth 100000 in
set_option maxHeartbeats 1000000 in
theorem clone_none (p : Option Addr) (c : Nat) (w : World) : Calls Tryd.prog 66 #[.slice p 0 c] w (NoneAt w) := by
  cases p with
  | none => exact (AnyE.slices_Clone_nil Tryd.cloneEdges 0 c w).mono fun e w' ⟨he, hw⟩ => ⟨none, 0, he, by rw [hw]; exact Below.refl _ _⟩
  | some a =>
    obtain ⟨i0, hi, hz0, hz1, hz2⟩ := info_parts info
    have hq : ∀ (w : World) (n c n' c' : Nat), (binOp .eql 64 (.slice (some a) n c) (.slice none n' c')).run Tryd.prog w = .ok (.bool false) w := fun w n c n' c' => Lib.run_eql_slice_nil w _ _ (some a) n c n' c' Tryd.underlying64
    go_enter Tryd.func66, Tryd.ntmps66
    go_wp2_with (at_builtin; refine wpList_append_own _ rfl _ _ 64 rfl w.heap.size 67 i0 (.agg #[.int .i64 0, .int .i64 0, .int .i64 0, .int .i64 0]) 4 32 Tryd.underlying64 hi hz0 hz1 hz2 rfl (by decide) _ _ _ rfl (World.ownsRow_made w #[] 0 (Nat.le_refl _) (Nat.zero_le _) (by simp)) a 0 c [] rfl ?qc1 ?qc2 ?qc3 ?qc4 ?qc5 ?qc6 ?_)
    case qc1 => rfl
    case qc2 => intro j u hj; simp at hj
    case qc3 => intro u hu; simp at hu
    case qc4 => simp [maxLen]
    case qc5 => simp
    case qc6 => simp
    intro v' w1 hown hgrow hnil
    have hv : ∃ p' c', v' = .slice p' 0 c' := by
      rcases hown.2 with ⟨h1, _⟩ | ⟨g, cap, _, h1, _⟩
      · exact ⟨_, _, h1⟩
      · exact ⟨_, _, h1⟩
    obtain ⟨p', c', rfl⟩ := hv
    have HB : Hid (Below w.heap.size w w1) := Lib.hid (((Below.refl _ w).alloc (Nat.le_refl _) _).grown hgrow (by simp) (by intro k hk; simp [Value.ownBlock] at hk; omega))
    have HP : Hid (NoneAt w (.returned (.slice p' 0 c')) w1) := Lib.hid ⟨p', c', rfl, HB.out⟩
    clear hown hgrow hnil hq HB
    go_wp2
    go_ret
    exact HP.out
set_option maxRecDepth 100000 in
set_option maxHeartbeats 1000000 in
theorem compact_none (p : Option Addr) (c : Nat) (w : World) : Calls Tryd.prog 69 #[.slice p 0 c] w fun e w' => e = .returned (.slice p 0 c) ∧ w = w' := by
  go_enter Tryd.func69, Tryd.ntmps69
  go_wp2
  go_ret
  exact ⟨rfl, rfl⟩
set_option maxRecDepth 100000 in
set_option maxHeartbeats 1000000 in
theorem sort_none (p : Option Addr) (c : Nat) (w : World) : Calls Tryd.prog 41 #[.slice p 0 c] w (NoneAt w) := by
  have HC := Lib.hid (clone_none p c w)
  go_enter Tryd.func41, Tryd.ntmps41
  go_wp2_with fail
  refine (HC.out).mono ?_
  rintro e w1 ⟨p1, c1, rfl, hb⟩
  have HS := Lib.hid (AnyF.slices_SortFunc_none Tryd.sortEdges p1 c1 (.func (.func 68) #[] #[]) w1)
  have HP : Hid (NoneAt w (.returned (.slice p1 0 c1)) w1) := Lib.hid ⟨p1, c1, rfl, hb⟩
  clear hb HC
  go_wp2_with fail
  refine (HS.out).mono ?_
  rintro e w2 ⟨rfl, rfl⟩
  go_wp2_with fail
  refine (compact_none p1 c1 _).mono ?_
  rintro e w3 ⟨rfl, rfl⟩
  go_wp2
  go_ret
  exact HP.out
/-- pack.Sort on whatever list of edges. -/
theorem sortE_any {v : Value} {xs : List E} (w : World) (hx : Eds w v xs) (hl : xs.length ≤ 1000000) : Calls Tryd.prog 41 #[v] w (EdsNew (sortL xs) w) := by
  rcases hx with ⟨⟨p, c, rfl⟩, rfl⟩ | ⟨g, o, c, rfl, _, h2, h3⟩
  · exact (sort_none p c w).mono fun e w' ⟨p', c', he, hb⟩ => ⟨⟨_, he, .inl ⟨⟨_, _, rfl⟩, rfl⟩⟩, hb⟩
  · have hs := sort_any g o c xs.toArray w (by simpa using hl) (by
      intro j u hj
      have hjl : j < xs.length * 4 := by
        have := (List.getElem?_eq_some_iff.1 hj).1
        simpa using this
      have hk : j / 4 < xs.length := by omega
      obtain ⟨c0, c1, c2, c3⟩ := h3 (j / 4) hk
      have hu : (flatK encE 4 xs.toArray)[j]! = u := by
        obtain ⟨hlt, hh⟩ := List.getElem?_eq_some_iff.1 hj
        rw [getElem!_pos _ j (by simpa using hlt)]
        simpa using hh
      rw [get_flatK encE 4 xs.toArray j (by simpa using hjl)] at hu
      have hx : xs.toArray[j / 4]! = xs.getD (j / 4) zE := by
        rw [getElem!_pos xs.toArray (j / 4) (by simpa using hk)]
        simp [hk]
      rw [hx] at hu
      have h4 : j % 4 = 0 ∨ j % 4 = 1 ∨ j % 4 = 2 ∨ j % 4 = 3 := by omega
      have e : ∀ r, j % 4 = r → o + j = o + j / 4 * 4 + r := fun r hr => by omega
      rcases h4 with h | h | h | h
      · rw [h] at hu; rw [e 0 h, ← hu]; exact c0
      · rw [h] at hu; rw [e 1 h, ← hu]; exact c1
      · rw [h] at hu; rw [e 2 h, ← hu]; exact c2
      · rw [h] at hu; rw [e 3 h, ← hu]; exact c3)
    rw [show xs.toArray.size = xs.length by simp] at hs
    refine hs.mono fun e w' hh => ?_
    obtain ⟨g', c', he, hH, _, hb⟩ := hh
    rw [sortedE_eq, List.toList_toArray] at he hH
    refine ⟨⟨_, he, ?_⟩, hb⟩
    by_cases h0 : (sortL xs).length = 0
    · rw [h0]
      exact .inl ⟨⟨_, _, rfl⟩, List.length_eq_zero_iff.1 h0⟩
    · have hc : ∀ k, k < (sortL xs).length → (sortL xs).toArray[k]! = (sortL xs).getD k zE := fun k hk => by
        rw [getElem!_pos (sortL xs).toArray k (by simpa using hk)]
        simp [hk]
      refine .inr ⟨g', 0, c', rfl, ?_, Nat.le_trans (sortL_len xs) h2, fun k hk => ?_⟩
      · have := (cellsE hH (i := 0) (by simp; omega)).1.1
        exact World.block_lt_of_cell? _ _ this
      · have := (cellsE hH (i := k) (by simpa using hk)).1
        rw [hc k hk] at this
        exact this
end Go.Proofs.YtoakpmbiplmpbaaDoor.Pk
