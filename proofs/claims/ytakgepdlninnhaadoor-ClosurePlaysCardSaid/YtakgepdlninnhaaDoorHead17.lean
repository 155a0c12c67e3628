/-
  Contracts of small functions, several texts laid into one. Not a statement of the seat.
-/
import Derived.Test.YtakgepdlninnhaaDoorRow7
import Derived.Test.YtakgepdlninnhaaDoorHead16
import Derived.Lib.SlBy2
import Derived.Deep.LoopGhost
namespace Go.Proofs.YtakgepdlninnhaaDoor.Bits
open Go.ChangeShapes Go.WideShapes Go.ChangeAt Go.RowKit Base Go.Shelf
theorem len_nil (w : World) : Calls Tryd.prog 66 #[.pointer none] w fun e w' => e = .returned (.int .i64 0) ∧ w = w' := by
  go_enter Tryd.func66, Tryd.ntmps66
  go_wp2
  go_ret
  exact ⟨rfl, rfl⟩
theorem next_nil (w : World) : Calls Tryd.prog 51 #[.pointer none, .int .i64 0] w fun e w' => e = .returned (.int .i64 (-1)) ∧ w = w' := by
  go_enter Tryd.func51, Tryd.ntmps51
  go_wp2
  go_ret
  exact ⟨rfl, rfl⟩
theorem has_nil (w : World) : Calls Tryd.prog 34 #[.pointer none, .int .i64 0] w fun e w' => e = .returned (.bool false) ∧ w = w' := by
  go_enter Tryd.func34, Tryd.ntmps34
  go_wp2
  go_ret
  exact ⟨rfl, rfl⟩
theorem count_nil (w : World) : Calls Tryd.prog 48 #[.pointer none] w fun e w' => e = .returned (.int .i64 0) ∧ w = w' := by
  go_enter Tryd.func48, Tryd.ntmps48
  go_wp2
  go_ret
  exact ⟨rfl, rfl⟩
theorem or_nil (b : Nat) (w : World) : Calls Tryd.prog 41 #[.pointer none, .pointer (some ⟨b, 0, none⟩)] w fun e w' => e = .returned (.bool false) ∧ w = w' := by
  go_enter Tryd.func41, Tryd.ntmps41
  go_wp2
  go_ret
  exact ⟨rfl, rfl⟩
theorem words_list (n V : Nat) : ((List.range ((n + 63) / 64)).map fun k => ((wrd V k : Nat) : Int)).length = (n + 63) / 64 := by simp
def wlist (n V : Nat) : List Int := (List.range ((n + 63) / 64)).map fun k => ((wrd V k : Nat) : Int)
theorem wlist_len (n V : Nat) : (wlist n V).length = (n + 63) / 64 := by simp [wlist]
theorem wlist_get {n V k : Nat} (h : k < (n + 63) / 64) : (wlist n V)[k]! = ((wrd V k : Nat) : Int) := by
  rw [getElem!_pos (wlist n V) k (by rw [wlist_len]; exact h)]
  simp [wlist]
theorem allEq_self : ∀ l : List Int, Lib.allEq (fun x y => x == y) l l = true
  | [] => rfl
  | x :: l => by simp [Lib.allEq, allEq_self l]
theorem allEq_iff : ∀ l m : List Int, Lib.allEq (fun x y => x == y) l m = true → l = m
  | [], [], _ => rfl
  | x :: l, y :: m, h => by
    simp [Lib.allEq] at h
    rw [h.1, allEq_iff l m h.2]
  | [], _ :: _, h => by simp [Lib.allEq] at h
  | _ :: _, [], h => by simp [Lib.allEq] at h
theorem wlist_eq {n V W : Nat} (hV : V < 2 ^ n) (hW : W < 2 ^ n) : Lib.allEq (fun x y => x == y) (wlist n V) (wlist n W) = decide (V = W) := by
  by_cases e : V = W
  · subst e
    rw [allEq_self]; simp
  · have : Lib.allEq (fun x y => x == y) (wlist n V) (wlist n W) ≠ true := fun h => e (words_ext hV hW fun k hk => by
      have h1 := allEq_iff _ _ h
      have h2 := wlist_get (V := V) hk
      rw [h1, wlist_get hk] at h2
      omega)
    rw [decide_eq_false e]
    simpa using this
end Go.Proofs.YtakgepdlninnhaaDoor.Bits
namespace Go.Proofs.YtakgepdlninnhaaDoor.Bits
open Go.ChangeShapes Go.WideShapes Go.ChangeAt Go.RowKit Base Go.Shelf
theorem lists_ext {xs ys : List Int} (hl : xs.length = ys.length) (h : ∀ j, j < xs.length → xs.getD j 0 = ys.getD j 0) : xs = ys := by
  apply List.ext_getElem hl
  intro i h1 h2
  have := h i h1
  simpa [h1, h2] using this
set_option maxHeartbeats 1000000 in
theorem sameInts_any (g o c g' o' c' : Nat) (xs ys : List Int) (w : World) (hx : ∀ k, k < xs.length → w.cell? ⟨g, o + k, none⟩ = some (.int .i64 (xs.getD k 0))) (hy : ∀ k, k < ys.length → w.cell? ⟨g', o' + k, none⟩ = some (.int .i64 (ys.getD k 0))) (hl : xs.length ≤ 9223372036854775807) (_ : ys.length ≤ 9223372036854775807) :
    Calls Tryd.prog 16 #[.slice (some ⟨g, o, none⟩) xs.length c, .slice (some ⟨g', o', none⟩) ys.length c'] w fun e w' => e = .returned (.bool (decide (xs = ys))) ∧ ∃ q, w' = w.drewN q := by
  have HX := Lib.hid hx
  have HY := Lib.hid hy
  clear hx hy
  by_cases hn : xs.length = ys.length
  · have HEQ : Hid ((∀ j, j < xs.length → xs.getD j 0 = ys.getD j 0) → decide (xs = ys) = true) := Lib.hid fun h => decide_eq_true (lists_ext hn h)
    have HNE : Hid (∀ j, xs.getD j 0 ≠ ys.getD j 0 → decide (xs = ys) = false) := Lib.hid fun j h => decide_eq_false (fun e => h (by rw [e]))
    have hb : ((xs.length : Int) != (ys.length : Int)) = false := by rw [bne_eq_false_iff_eq]; omega
    have HN := Lib.hid hn
    clear hn
    generalize decide (xs = ys) = r at HEQ HNE ⊢
    go_enter Tryd.func16, Tryd.ntmps16
    go_wp2
    go_loopg [13] xs.length (fun gg s13 wr => ∃ k q : Nat, k ≤ xs.length ∧ xs.length - k ≤ gg ∧ s13 = .int .i64 k ∧ wr = w.drewN q ∧ Hid (∀ j, j < k → xs.getD j 0 = ys.getD j 0))
    case atStart => exact ⟨0, 0, Nat.zero_le _, by omega, rfl, rfl, Lib.hid (fun j hj => absurd hj (by omega))⟩
    case round =>
      obtain ⟨k, q, hk, hg, rfl, rfl, HK⟩ := hrel
      by_cases hlt : k < xs.length
      · have h1 := HX.out k hlt
        have h2 := HY.out k (by rw [← HN.out]; exact hlt)
        have hlt' : k < ys.length := by rw [← HN.out]; exact hlt
        have HKK : Hid (xs.getD k 0 = ys.getD k 0 → ∀ j, j < k + 1 → xs.getD j 0 = ys.getD j 0) := Lib.hid fun h j hj => by
          by_cases e : j = k
          · rw [e]; exact h
          · exact HK.out j (by omega)
        have HNK := Lib.hid (HNE.out k)
        generalize xs.getD k 0 = x at h1 HKK HNK
        generalize ys.getD k 0 = y at h2 HKK HNK
        by_cases hxy : x = y
        · have hd : (x != y) = false := by rw [bne_eq_false_iff_eq]; exact hxy
          have HK2 := Lib.hid (HKK.out hxy)
          clear hxy HKK HNK HK
          go_wp2_with fail
          go_quiet (fail)
          go_wp2
          go_roundg (xs.length - (k + 1))
          case measure => omega
          case rel => exact ⟨k + 1, q + nq, by omega, Nat.le_refl _, by go_num, rfl, HK2⟩
        · have hd : (x != y) = true := by rw [bne_iff_ne]; exact hxy
          have HF := Lib.hid (HNK.out hxy)
          clear hxy HKK HNK HK
          go_wp2_with fail
          go_quiet (fail)
          go_wp2
          go_ret
          exact ⟨ret_bool HF.out.symm, q + nq, World.drewN_drewN _ _ _⟩
      · have HT := Lib.hid (HEQ.out fun j hj => HK.out j (by omega))
        clear HK HEQ HNE
        go_wp2
        go_ret
        exact ⟨ret_bool HT.out.symm, _, rfl⟩
  · have HF : Hid (decide (xs = ys) = false) := Lib.hid (decide_eq_false (fun e => hn (by rw [e])))
    have hb : ((xs.length : Int) != (ys.length : Int)) = true := by rw [bne_iff_ne]; omega
    clear hn
    generalize decide (xs = ys) = r at HF ⊢
    go_enter Tryd.func16, Tryd.ntmps16
    go_wp2
    go_ret
    exact ⟨ret_bool HF.out.symm, 0, rfl⟩
theorem list_nil (w : World) : Calls Tryd.prog 33 #[.pointer none] w fun e w' => e = .returned (.slice (some ⟨w.heap.size, 0, none⟩) 0 0) ∧ Below w.heap.size w w' := by
  have hmk : ∀ wx, (Instr.makeSlice 30 (.int .i64 0) (.int .i64 0)).run Tryd.prog wx = .ok (.slice (some ⟨wx.heap.size, 0, none⟩) 0 0) (wx.alloc (.cells (madeCells #[.int .i64 0] 0) 3)) := fun wx => run_make_row' (P := Tryd.prog) 30 3 (.int .i64 0) 8 Tryd.underlying30 int_info rfl .i64 .i64 0 (by omega) (by omega) wx
  go_enter Tryd.func33, Tryd.ntmps33
  go_wp2_with fail
  refine (count_nil _).mono ?_
  rintro e wx ⟨rfl, rfl⟩
  go_wp2_with fail
  refine (next_nil _).mono ?_
  rintro e wy ⟨rfl, rfl⟩
  go_wp2_with fail
  refine wp_loop_rounds 1 ?_
  rw [rounds_succ]
  go_wp2
  go_ret
  exact ⟨rfl, by go_grown⟩
end Go.Proofs.YtakgepdlninnhaaDoor.Bits
namespace Go.Proofs.YtakgepdlninnhaaDoor.Bits
open Go.ChangeShapes Go.WideShapes Go.ChangeAt Go.RowKit Base Go.Shelf
/-- v is nil and xs is empty, or v's elements, which lie from block base on, are xs. -/
def Ints (base : Nat) (w : World) (v : Value) (xs : List Int) : Prop :=
  ((∃ p c, v = .slice p 0 c) ∧ xs = []) ∨ ∃ g o c, v = .slice (some ⟨g, o, none⟩) xs.length c ∧ base ≤ g ∧ g < w.heap.size ∧ xs.length ≤ 9223372036854775807 ∧ ∀ k, k < xs.length → w.cell? ⟨g, o + k, none⟩ = some (.int .i64 (xs.getD k 0))
theorem Ints.below {base : Nat} {w w1 : World} {v : Value} {xs : List Int} (h : Ints base w v xs) (hb : Below w.heap.size w w1) : Ints base w1 v xs := by
  rcases h with h | ⟨g, o, c, hv, h1, h2, h3, h4⟩
  · exact .inl h
  · exact .inr ⟨g, o, c, hv, h1, Nat.lt_of_lt_of_le h2 hb.size, h3, fun k hk => (hb.cell (p := ⟨g, o + k, none⟩) h2).trans (h4 k hk)⟩
theorem Ints.grown {base : Nat} {w w1 : World} {v : Value} {xs : List Int} {x : Nat} (h : Ints base w v xs) (hg : w.grownBy w1 (some x)) (hx : x < base) : Ints base w1 v xs := by
  rcases h with h | ⟨g, o, c, hv, h1, h2, h3, h4⟩
  · exact .inl h
  · refine .inr ⟨g, o, c, hv, h1, Nat.lt_of_lt_of_le h2 hg.size, h3, fun k hk => ?_⟩
    rw [World.cell?_of_block (w := w) (a := ⟨g, o + k, none⟩) (hg.block g h2 (fun e => by have := Option.some.inj e; omega))]
    exact h4 k hk
theorem Ints.mono {base base' : Nat} {w : World} {v : Value} {xs : List Int} (h : Ints base w v xs) (hb : base' ≤ base) : Ints base' w v xs := by
  rcases h with h | ⟨g, o, c, hv, h1, h2⟩
  · exact .inl h
  · exact .inr ⟨g, o, c, hv, Nat.le_trans hb h1, h2⟩
theorem Ints.open_ {base : Nat} {w : World} {v : Value} {xs : List Int} (h : Ints base w v xs) : ∃ p c, v = .slice p xs.length c ∧ xs.length ≤ 9223372036854775807 ∧ ∀ k, k < xs.length → ∃ g o, p = some ⟨g, o, none⟩ ∧ base ≤ g ∧ g < w.heap.size ∧ w.cell? ⟨g, o + k, none⟩ = some (.int .i64 (xs.getD k 0)) := by
  rcases h with ⟨⟨p, c, rfl⟩, rfl⟩ | ⟨g, o, c, hv, h1, h2, h3, h4⟩
  · exact ⟨p, c, rfl, by simp, fun k hk => by simp at hk⟩
  · exact ⟨_, c, hv, h3, fun k hk => ⟨g, o, rfl, h1, h2, h4 k hk⟩⟩
theorem Ints.nil {base : Nat} {w : World} : Ints base w (.slice none 0 0) [] := .inl ⟨⟨_, _, rfl⟩, rfl⟩
/-- The places of V below n, as ints. -/
def intsOf (n V : Nat) : List Int := (placesTo V n).map fun (j : Nat) => (j : Int)
theorem intsOf_len (n V : Nat) : (intsOf n V).length ≤ n := by
  unfold intsOf; rw [List.length_map]; exact placesTo_len V n
theorem ints_of_row {base n : Nat} {w : World} {t : TypeId} {v : Value} {xs : List Nat} (h : w.ownsRow base t 1 v n (vals xs)) (hx : n = xs.length) (hl : n ≤ 65536) : Ints base w v (xs.map fun (j : Nat) => (j : Int)) := by
  obtain ⟨_, h⟩ := h
  rcases h with ⟨hv, h0⟩ | ⟨g, cap, cur, hv, h1, h2, h3, h4, h5, h6⟩
  · left
    refine ⟨⟨_, _, hv⟩, ?_⟩
    have : xs = [] := List.length_eq_zero_iff.1 (by omega)
    rw [this]; rfl
  · right
    refine ⟨g, 0, cap, by rw [List.length_map, ← hx]; exact hv, h1, heap_lt h2, by rw [List.length_map]; omega, fun k hk => ?_⟩
    rw [List.length_map] at hk
    have hc : cur[k]? = some (.int .i64 (xs.getD k 0 : Nat)) := by
      have : (cur.toList.take (n * 1))[k]? = (vals xs)[k]? := by rw [h6]
      rw [List.getElem?_take, if_pos (by omega)] at this
      rw [← Array.getElem?_toList, this]
      rw [vals, List.getElem?_map, List.getElem?_eq_getElem hk, List.getD_eq_getElem?_getD, List.getElem?_eq_getElem hk]
      rfl
    simp only [World.cell?, h2, Nat.zero_add, hc]
    simp [List.getD_eq_getElem?_getD, hk]
theorem list_ints (b g n V : Nat) (w : World) (h : RowAt w b g n V) (hT : TabAt 0 Lib.deBruijn64tab w) (hg : 0 < w.heap.size) :
    Calls Tryd.prog 33 #[.pointer (some ⟨b, 0, none⟩)] w fun e w' => (∃ v, e = .returned v ∧ Ints w.heap.size w' v (intsOf n V)) ∧ Below w.heap.size w w' :=
  (list_any b g n V w h hT hg).mono fun _ _ ⟨⟨v, h1, h2, _⟩, h4⟩ => ⟨⟨v, h1, ints_of_row h2 rfl (Nat.le_trans (placesTo_len V n) h.2.2.1)⟩, h4⟩
theorem same_ne (p p' : Option Addr) (m m' c c' : Nat) (w : World) (hne : m ≠ m') :
    Calls Tryd.prog 16 #[.slice p m c, .slice p' m' c'] w fun e w' => e = .returned (.bool false) ∧ w' = w := by
  have hb : ((m : Int) != (m' : Int)) = true := by rw [bne_iff_ne]; omega
  clear hne
  go_enter Tryd.func16, Tryd.ntmps16
  go_wp2
  go_ret
  exact ⟨rfl, rfl⟩
theorem same_zero (p p' : Option Addr) (c c' : Nat) (w : World) :
    Calls Tryd.prog 16 #[.slice p 0 c, .slice p' 0 c'] w fun e w' => e = .returned (.bool true) ∧ w' = w := by
  go_enter Tryd.func16, Tryd.ntmps16
  go_wp2_with fail
  refine wp_loop_rounds 1 ?_
  rw [rounds_succ]
  go_wp2
  go_ret
  exact ⟨rfl, rfl⟩
theorem sameInts_ints {b1 b2 : Nat} {v u : Value} {xs ys : List Int} {w : World} (hx : Ints b1 w v xs) (hy : Ints b2 w u ys) :
    Calls Tryd.prog 16 #[v, u] w fun e w' => e = .returned (.bool (decide (xs = ys))) ∧ ∃ q, w' = w.drewN q := by
  rcases hx with ⟨⟨p, c, rfl⟩, rfl⟩ | ⟨g, o, c, rfl, _, _, h3, h4⟩ <;> rcases hy with ⟨⟨p', c', rfl⟩, rfl⟩ | ⟨g', o', c', rfl, _, _, h3', h4'⟩
  · exact (same_zero _ _ _ _ w).mono fun e w' h => ⟨by rw [h.1]; rfl, 0, h.2⟩
  · by_cases hz : ys.length = 0
    · have : ys = [] := List.length_eq_zero_iff.1 hz
      subst this
      exact (same_zero _ _ _ _ w).mono fun e w' h => ⟨by rw [h.1]; rfl, 0, h.2⟩
    · refine (same_ne _ _ _ _ _ _ w (fun e => hz e.symm)).mono fun e w' h => ⟨?_, 0, h.2⟩
      rw [h.1, decide_eq_false (fun e => hz (by rw [← e]; rfl))]
  · by_cases hz : xs.length = 0
    · have : xs = [] := List.length_eq_zero_iff.1 hz
      subst this
      exact (same_zero _ _ _ _ w).mono fun e w' h => ⟨by rw [h.1]; rfl, 0, h.2⟩
    · refine (same_ne _ _ _ _ _ _ w hz).mono fun e w' h => ⟨?_, 0, h.2⟩
      rw [h.1, decide_eq_false (fun e => hz (by rw [e]; rfl))]
  · exact sameInts_any g o c g' o' c' xs ys w h4 h4' h3 h3'
theorem merge_nil (b g n : Nat) (R : Nat) (w : World) (h : RowAt w b g n 0) (hn : n = 0) :
    Calls Tryd.prog 56 #[.pointer (some ⟨b, 0, none⟩), .pointer none, .func (.func R) #[] #[]] w fun e w' => e = .returned (.bool false) ∧ w' = w := by
  subst hn
  obtain ⟨h0, h1⟩ := h.head
  clear h
  go_enter Tryd.func56, Tryd.ntmps56
  go_wp2_with fail
  refine wp_loop_rounds 1 ?_
  rw [rounds_succ]
  go_wp2
  go_ret
  exact ⟨rfl, rfl⟩
theorem or_by_nil (b g : Nat) (w : World) (h : RowAt w b g 0 0) : Calls Tryd.prog 41 #[.pointer (some ⟨b, 0, none⟩), .pointer none] w fun e w' => e = .returned (.bool false) ∧ w' = w := by
  have HM := Lib.hid (merge_nil b g 0 57 w h rfl)
  clear h
  go_enter Tryd.func41, Tryd.ntmps41
  go_wp2_with fail
  refine (HM.out).mono ?_
  rintro e w1 ⟨rfl, rfl⟩
  go_wp2
  go_ret
  exact ⟨rfl, rfl⟩
theorem copy_nil (w : World) : Calls Tryd.prog 55 #[.pointer none] w fun e w' => e = .returned (.pointer (some ⟨w.heap.size + 1, 0, none⟩)) ∧ RowAt w' (w.heap.size + 1) w.heap.size 0 0 ∧ Below w.heap.size w w' := by
  have HN := Lib.hid (new_any 0 w)
  rw [show rowLen (0 : Int) = 0 from rfl] at HN
  go_enter Tryd.func55, Tryd.ntmps55
  go_wp2_with fail
  refine (len_nil _).mono ?_
  rintro e wx ⟨rfl, rfl⟩
  go_wp2_with fail
  refine (HN.out).mono ?_
  rintro e w1 ⟨rfl, hr, hb⟩
  have HO := Lib.hid (or_by_nil _ _ _ hr)
  have HR := Lib.hid hr
  have HB := Lib.hid hb
  clear hr hb HN
  go_wp2_with fail
  refine (HO.out).mono ?_
  rintro e w2 ⟨rfl, rfl⟩
  go_wp2
  go_ret
  exact ⟨rfl, HR.out, HB.out⟩
/-- A place that is the next one. -/
theorem next_is {n V i j : Nat} {r : Int} (h : NextP n V i r) (hij : i ≤ j) (hjn : j < n) (hb : V.testBit j = true) (hno : ∀ m, m < j → i ≤ m → V.testBit m = false) : r = j := by
  rcases h with ⟨_, h2⟩ | ⟨j', h1, h2, h3, h4, h5⟩
  · rw [h2 j hij hjn] at hb; cases hb
  · rcases Nat.lt_trichotomy j j' with h6 | h6 | h6
    · rw [h5 j hij h6] at hb; cases hb
    · rw [h1, h6]
    · rw [hno j' h6 h2] at h4; cases h4
end Go.Proofs.YtakgepdlninnhaaDoor.Bits
