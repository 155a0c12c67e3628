/-
  Contracts of both Sorts and of SameEdges, on lists of edges. Not a statement of the seat.
-/
import Derived.Test.YtjknnbeemcpppaaDoorPkPut
import Derived.Deep.LoopGhost
namespace Go.Proofs.YtjknnbeemcpppaaDoor.Pk
open Go.ChangeShapes Go.WideShapes Go.ChangeAt Go.RowKit Base Go.Shelf Go.Lib Go.Sort
theorem edges_ext {xs ys : List E} (hl : xs.length = ys.length) (h : ∀ j, j < xs.length → xs.getD j zE = ys.getD j zE) : xs = ys := by
  refine List.ext_getElem hl fun i h1 h2 => ?_
  have := h i h1
  simpa [h1, h2] using this
set_option maxHeartbeats 2000000 in
theorem sameE_any {v u : Value} {xs ys : List E} (w : World) (hx : Eds w v xs) (hy : Eds w u ys) :
    Calls Tryd.prog 15 #[v, u] w fun e w' => e = .returned (.bool (decide (xs = ys))) ∧ ∃ q, w' = w.drewN q := by
  obtain ⟨p, c, rfl, hl, hx⟩ := hx.open_
  obtain ⟨p', c', rfl, hl', hy⟩ := hy.open_
  have HX := Lib.hid hx
  have HY := Lib.hid hy
  clear hx hy
  by_cases hn : xs.length = ys.length
  · have HEQ : Hid ((∀ j, j < xs.length → xs.getD j zE = ys.getD j zE) → decide (xs = ys) = true) := Lib.hid fun h => decide_eq_true (edges_ext hn h)
    have HNE : Hid (∀ j, xs.getD j zE ≠ ys.getD j zE → decide (xs = ys) = false) := Lib.hid fun j h => decide_eq_false (fun e => h (by rw [e]))
    have hb : ((xs.length : Int) != (ys.length : Int)) = false := by rw [bne_eq_false_iff_eq]; omega
    have HN := Lib.hid hn
    clear hn
    generalize decide (xs = ys) = r at HEQ HNE ⊢
    go_enter Tryd.func15, Tryd.ntmps15
    go_wp2
    go_loopg [13] xs.length (fun gg s13 wr => ∃ k q : Nat, k ≤ xs.length ∧ xs.length - k ≤ gg ∧ s13 = .int .i64 k ∧ wr = w.drewN q ∧ Hid (∀ j, j < k → xs.getD j zE = ys.getD j zE))
    case atStart => exact ⟨0, 0, Nat.zero_le _, by omega, rfl, rfl, Lib.hid (fun j hj => absurd hj (by omega))⟩
    case round =>
      obtain ⟨k, q, hk, hg, rfl, rfl, HK⟩ := hrel
      by_cases hlt : k < xs.length
      · obtain ⟨g1, o1, rfl, _, a0, a1, a2, a3⟩ := HX.out k hlt
        obtain ⟨g2, o2, rfl, _, b0, b1, b2, b3⟩ := HY.out k (by rw [← HN.out]; exact hlt)
        have hlt' : k < ys.length := by rw [← HN.out]; exact hlt
        have HKK : Hid (xs.getD k zE = ys.getD k zE → ∀ j, j < k + 1 → xs.getD j zE = ys.getD j zE) := Lib.hid fun h j hj => by
          by_cases e : j = k
          · rw [e]; exact h
          · exact HK.out j (by omega)
        have HNK := Lib.hid (HNE.out k)
        generalize xs.getD k zE = x at a0 a1 a2 a3 HKK HNK
        generalize ys.getD k zE = y at b0 b1 b2 b3 HKK HNK
        have hq := neE x y
        by_cases hxy : x = y
        · rw [decide_eq_true hxy] at hq
          have HK2 := Lib.hid (HKK.out hxy)
          clear hxy HKK HNK HK
          go_wp2_with fail
          go_quiet (fail)
          go_wp2
          go_roundg (xs.length - (k + 1))
          case measure => omega
          case rel => exact ⟨k + 1, q + nq, by omega, Nat.le_refl _, by go_num, rfl, HK2⟩
        · rw [decide_eq_false hxy] at hq
          have HF := Lib.hid (HNK.out hxy)
          clear hxy HKK HNK HK
          go_wp2_with fail
          go_quiet (fail)
          go_wp2
          go_ret
          exact ⟨ret_bool HF.out.symm, q + nq, World.drewN_drewN _ _ _⟩
      · have HT := Lib.hid (HEQ.out fun j hj => HK.out j (by omega))
        clear HK HEQ HNE
        go_wp2
        go_ret
        exact ⟨ret_bool HT.out.symm, _, rfl⟩
  · have HF : Hid (decide (xs = ys) = false) := Lib.hid (decide_eq_false (fun e => hn (by rw [e])))
    have hb : ((xs.length : Int) != (ys.length : Int)) = true := by rw [bne_iff_ne]; omega
    clear hn
    generalize decide (xs = ys) = r at HF ⊢
    go_enter Tryd.func15, Tryd.ntmps15
    go_wp2
    go_ret
    exact ⟨ret_bool HF.out.symm, 0, rfl⟩
/-- A slice of no element. -/
def NoneAt (w : World) (e : Ending) (w' : World) : Prop := ∃ p c, e = .returned (.slice p 0 c) ∧ Below w.heap.size w w'
set_option maxHeartbeats 1000000 in
theorem clone_none (p : Option Addr) (c : Nat) (w : World) : Calls Tryd.prog 36 #[.slice p 0 c] w (NoneAt w) := by
  cases p with
  | none => exact (AnyE.slices_Clone_nil Tryd.cloneEdges 0 c w).mono fun e w' ⟨he, hw⟩ => ⟨none, 0, he, by rw [hw]; exact Below.refl _ _⟩
  | some a =>
    obtain ⟨i0, hi, hz0, hz1, hz2⟩ := info_parts info
    have hq : ∀ (w : World) (n c n' c' : Nat), (binOp .eql 22 (.slice (some a) n c) (.slice none n' c')).run Tryd.prog w = .ok (.bool false) w := fun w n c n' c' => Lib.run_eql_slice_nil w _ _ (some a) n c n' c' Tryd.underlying22
    go_enter Tryd.func36, Tryd.ntmps36
    go_wp2_with (at_builtin; refine wpList_append_own _ rfl _ _ 22 rfl w.heap.size 32 i0 (.agg #[.int .i64 0, .int .i64 0, .int .i64 0, .int .i64 0]) 4 32 Tryd.underlying22 hi hz0 hz1 hz2 rfl (by decide) _ _ _ rfl (World.ownsRow_made w #[] 0 (Nat.le_refl _) (Nat.zero_le _) (by simp)) a 0 c [] rfl ?qc1 ?qc2 ?qc3 ?qc4 ?qc5 ?qc6 ?_)
    case qc1 => rfl
    case qc2 => intro j u hj; simp at hj
    case qc3 => intro u hu; simp at hu
    case qc4 => simp [maxLen]
    case qc5 => simp
    case qc6 => simp
    intro v' w1 hown hgrow hnil
    have hv : ∃ p' c', v' = .slice p' 0 c' := by
      rcases hown.2 with ⟨h1, _⟩ | ⟨g, cap, _, h1, _⟩
      · exact ⟨_, _, h1⟩
      · exact ⟨_, _, h1⟩
    obtain ⟨p', c', rfl⟩ := hv
    have HB : Hid (Below w.heap.size w w1) := Lib.hid (((Below.refl _ w).alloc (Nat.le_refl _) _).grown hgrow (by simp) (by intro k hk; simp [Value.ownBlock] at hk; omega))
    have HP : Hid (NoneAt w (.returned (.slice p' 0 c')) w1) := Lib.hid ⟨p', c', rfl, HB.out⟩
    clear hown hgrow hnil hq HB
    go_wp2
    go_ret
    exact HP.out
set_option maxHeartbeats 1000000 in
theorem compact_none (p : Option Addr) (c : Nat) (w : World) : Calls Tryd.prog 39 #[.slice p 0 c] w fun e w' => e = .returned (.slice p 0 c) ∧ w = w' := by
  go_enter Tryd.func39, Tryd.ntmps39
  go_wp2
  go_ret
  exact ⟨rfl, rfl⟩
set_option maxHeartbeats 1000000 in
theorem sort_none (p : Option Addr) (c : Nat) (w : World) : Calls Tryd.prog 21 #[.slice p 0 c] w (NoneAt w) := by
  have HC := Lib.hid (clone_none p c w)
  go_enter Tryd.func21, Tryd.ntmps21
  go_wp2_with fail
  refine (HC.out).mono ?_
  rintro e w1 ⟨p1, c1, rfl, hb⟩
  have HS := Lib.hid (AnyF.slices_SortFunc_none Tryd.sortEdges p1 c1 (.func (.func 38) #[] #[]) w1)
  have HP : Hid (NoneAt w (.returned (.slice p1 0 c1)) w1) := Lib.hid ⟨p1, c1, rfl, hb⟩
  clear hb HC
  go_wp2_with fail
  refine (HS.out).mono ?_
  rintro e w2 ⟨rfl, rfl⟩
  go_wp2_with fail
  refine (compact_none p1 c1 _).mono ?_
  rintro e w3 ⟨rfl, rfl⟩
  go_wp2
  go_ret
  exact HP.out
/-- pack.Sort on whatever list of edges. -/
theorem sortE_any {v : Value} {xs : List E} (w : World) (hx : Eds w v xs) (hl : xs.length ≤ 1000000) : Calls Tryd.prog 21 #[v] w (EdsNew (sortL xs) w) := by
  rcases hx with ⟨⟨p, c, rfl⟩, rfl⟩ | ⟨g, o, c, rfl, _, h2, h3⟩
  · exact (sort_none p c w).mono fun e w' ⟨p', c', he, hb⟩ => ⟨⟨_, he, .inl ⟨⟨_, _, rfl⟩, rfl⟩⟩, hb⟩
  · have hs := sort_any g o c xs.toArray w (by simpa using hl) (by
      intro j u hj
      have hjl : j < xs.length * 4 := by
        have := (List.getElem?_eq_some_iff.1 hj).1
        simpa using this
      have hk : j / 4 < xs.length := by omega
      obtain ⟨c0, c1, c2, c3⟩ := h3 (j / 4) hk
      have hu : (flatK encE 4 xs.toArray)[j]! = u := by
        obtain ⟨hlt, hh⟩ := List.getElem?_eq_some_iff.1 hj
        rw [getElem!_pos _ j (by simpa using hlt)]
        simpa using hh
      rw [get_flatK encE 4 xs.toArray j (by simpa using hjl)] at hu
      have hx : xs.toArray[j / 4]! = xs.getD (j / 4) zE := by
        rw [getElem!_pos xs.toArray (j / 4) (by simpa using hk)]
        simp [hk]
      rw [hx] at hu
      have h4 : j % 4 = 0 ∨ j % 4 = 1 ∨ j % 4 = 2 ∨ j % 4 = 3 := by omega
      have e : ∀ r, j % 4 = r → o + j = o + j / 4 * 4 + r := fun r hr => by omega
      rcases h4 with h | h | h | h
      · rw [h] at hu; rw [e 0 h, ← hu]; exact c0
      · rw [h] at hu; rw [e 1 h, ← hu]; exact c1
      · rw [h] at hu; rw [e 2 h, ← hu]; exact c2
      · rw [h] at hu; rw [e 3 h, ← hu]; exact c3)
    rw [show xs.toArray.size = xs.length by simp] at hs
    refine hs.mono fun e w' hh => ?_
    obtain ⟨g', c', he, hH, _, hb⟩ := hh
    rw [sortedE_eq, List.toList_toArray] at he hH
    refine ⟨⟨_, he, ?_⟩, hb⟩
    by_cases h0 : (sortL xs).length = 0
    · rw [h0]
      exact .inl ⟨⟨_, _, rfl⟩, List.length_eq_zero_iff.1 h0⟩
    · have hc : ∀ k, k < (sortL xs).length → (sortL xs).toArray[k]! = (sortL xs).getD k zE := fun k hk => by
        rw [getElem!_pos (sortL xs).toArray k (by simpa using hk)]
        simp [hk]
      refine .inr ⟨g', 0, c', rfl, ?_, Nat.le_trans (sortL_len xs) h2, fun k hk => ?_⟩
      · have := (cellsE hH (i := 0) (by simp; omega)).1.1
        exact World.block_lt_of_cell? _ _ this
      · have := (cellsE hH (i := k) (by simpa using hk)).1
        rw [hc k hk] at this
        exact this
end Go.Proofs.YtjknnbeemcpppaaDoor.Pk
