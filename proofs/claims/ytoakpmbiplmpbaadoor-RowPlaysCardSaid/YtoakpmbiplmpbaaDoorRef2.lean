/-
  Contracts of the document's Minus, And, Moved, Put and Or on lists of places. Not a statement of the seat.
-/
import Derived.Test.YtoakpmbiplmpbaaDoorRef1
import Derived.Test.YtoakpmbiplmpbaaDoorRefMath
namespace Go.Proofs.YtoakpmbiplmpbaaDoor.Bits
open Go.ChangeShapes Go.WideShapes Go.ChangeAt Go.RowKit Base Go.Shelf
theorem filter_yes {xs : List Int} {P : Int → Bool} {k : Nat} (hk : k < xs.length) (h : P (xs.getD k 0) = true) : (xs.take (k + 1)).filter P = (xs.take k).filter P ++ [xs.getD k 0] := by
  rw [mem_take_succ hk, List.filter_append, List.filter_cons, if_pos h, List.filter_nil]
theorem filter_no {xs : List Int} {P : Int → Bool} {k : Nat} (hk : k < xs.length) (h : P (xs.getD k 0) = false) : (xs.take (k + 1)).filter P = (xs.take k).filter P := by
  rw [mem_take_succ hk, List.filter_append, List.filter_cons, if_neg (by rw [h]; decide), List.filter_nil, List.append_nil]
theorem filter_len {xs : List Int} {P : Int → Bool} {k : Nat} : ((xs.take k).filter P).length ≤ xs.length := Nat.le_trans (List.length_filter_le _ _) (by rw [List.length_take]; omega)
set_option maxHeartbeats 2000000 in
theorem minusl_any {b1 b2 : Nat} {v u : Value} {xs ys : List Int} (w : World) (hx : Ints b1 w v xs) (hy : Ints b2 w u ys) (hl : xs.length ≤ 400000) :
    Calls Tryd.prog 48 #[v, u] w (ListNew (xs.filter fun x => !decide (x ∈ ys)) w) := by
  obtain ⟨p, c, rfl, _, hc⟩ := hx.open_
  have HC := Lib.hid hc
  have HY := Lib.hid hy
  have HFY : Hid (∀ k, k < xs.length → (fun x => !decide (x ∈ ys)) (xs.getD k 0) = true → (xs.take (k + 1)).filter (fun x => !decide (x ∈ ys)) = (xs.take k).filter (fun x => !decide (x ∈ ys)) ++ [xs.getD k 0]) := Lib.hid fun k hk h => filter_yes hk h
  have HFN : Hid (∀ k, k < xs.length → (fun x => !decide (x ∈ ys)) (xs.getD k 0) = false → (xs.take (k + 1)).filter (fun x => !decide (x ∈ ys)) = (xs.take k).filter (fun x => !decide (x ∈ ys))) := Lib.hid fun k hk h => filter_no hk h
  have HFL : Hid (∀ k, ((xs.take k).filter (fun x => !decide (x ∈ ys))).length ≤ xs.length) := Lib.hid fun k => filter_len
  have HF0 : Hid ((xs.take xs.length).filter (fun x => !decide (x ∈ ys)) = xs.filter fun x => !decide (x ∈ ys)) := Lib.hid (by rw [List.take_length])
  clear hc hx hy
  have HN := Lib.hid (OwnI.nil w.heap.size w)
  have HB0 := Lib.hid (Below.refl w.heap.size w)
  go_enter Tryd.func48, Tryd.ntmps48
  go_wp2_with fail
  go_loopw [5, 10] (fun s5 s10 wr => ∃ k : Nat, s10 = .int .i64 k ∧ k ≤ xs.length ∧ OwnI w.heap.size wr s5 ((xs.take k).filter fun x => !decide (x ∈ ys)) ∧ Below w.heap.size w wr) (fun _ s10 _ => xs.length - (intOf s10).toNat)
  case atStart => exact ⟨0, rfl, Nat.zero_le _, HN.out, HB0.out⟩
  case round =>
    obtain ⟨k, rfl, hk, hown, hb⟩ := hrel
    by_cases hlt : k < xs.length
    · obtain ⟨g', o', rfl, _, hg, hcell⟩ := HC.out k hlt
      have hcell := (hb.cell (p := ⟨g', o' + k, none⟩) hg).trans hcell
      have HI := Lib.hid (in_any (xs.getD k 0) wr (HY.out.below hb))
      have HYK := Lib.hid (HFY.out k hlt)
      have HNK := Lib.hid (HFN.out k hlt)
      have hfl := HFL.out k
      have HB := Lib.hid hb
      have HO := Lib.hid hown
      clear hb hown
      generalize (xs.take k).filter (fun x => !decide (x ∈ ys)) = zs at HYK HNK HO hfl
      generalize xs.getD k 0 = x at hcell HI HYK HNK
      go_wp2_with fail
      refine (HI.out).mono ?_
      rintro e y ⟨rfl, rfl⟩
      by_cases hd : x ∈ ys
      · rw [decide_eq_true hd]
        have HE := Lib.hid (HNK.out (by simp [hd]))
        clear HYK HNK
        go_wp2_with fail
        go_roundw
        case rel => exact ⟨k + 1, by go_num, by omega, by rw [HE.out]; exact HO.out, HB.out⟩
        case measure => simp [intOf]; omega
      · rw [decide_eq_false hd]
        have HE := Lib.hid (HYK.out (by simp [hd]))
        clear HYK HNK
        go_wp2_with (at_builtin; refine append_int rfl (.tmp 18) (.tmp 20) rfl HB.out HO.out rfl rfl (by omega) ?_; intro v' w2 ho hb)
        have HO2 := Lib.hid ho
        have HB2 := Lib.hid hb
        clear ho hb
        go_wp2_with fail
        go_roundw
        case rel => exact ⟨k + 1, by go_num, by omega, by rw [HE.out]; exact HO2.out, HB2.out⟩
        case measure => simp [intOf]; omega
    · have e : k = xs.length := by omega
      subst e
      rw [HF0.out] at hown
      have HO := Lib.hid (hown.ints (by have := List.length_filter_le (fun x => !decide (x ∈ ys)) xs; omega))
      have HB := Lib.hid hb
      clear hown hb
      go_wp2
      go_ret
      exact ⟨⟨_, rfl, HO.out⟩, HB.out⟩
set_option maxHeartbeats 2000000 in
theorem andl_any {b1 b2 : Nat} {v u : Value} {xs ys : List Int} (w : World) (hx : Ints b1 w v xs) (hy : Ints b2 w u ys) (hl : xs.length ≤ 400000) :
    Calls Tryd.prog 49 #[v, u] w (ListNew (xs.filter fun x => decide (x ∈ ys)) w) := by
  obtain ⟨p, c, rfl, _, hc⟩ := hx.open_
  have HC := Lib.hid hc
  have HY := Lib.hid hy
  have HFY : Hid (∀ k, k < xs.length → (fun x => decide (x ∈ ys)) (xs.getD k 0) = true → (xs.take (k + 1)).filter (fun x => decide (x ∈ ys)) = (xs.take k).filter (fun x => decide (x ∈ ys)) ++ [xs.getD k 0]) := Lib.hid fun k hk h => filter_yes hk h
  have HFN : Hid (∀ k, k < xs.length → (fun x => decide (x ∈ ys)) (xs.getD k 0) = false → (xs.take (k + 1)).filter (fun x => decide (x ∈ ys)) = (xs.take k).filter (fun x => decide (x ∈ ys))) := Lib.hid fun k hk h => filter_no hk h
  have HFL : Hid (∀ k, ((xs.take k).filter (fun x => decide (x ∈ ys))).length ≤ xs.length) := Lib.hid fun k => filter_len
  have HF0 : Hid ((xs.take xs.length).filter (fun x => decide (x ∈ ys)) = xs.filter fun x => decide (x ∈ ys)) := Lib.hid (by rw [List.take_length])
  clear hc hx hy
  have HN := Lib.hid (OwnI.nil w.heap.size w)
  have HB0 := Lib.hid (Below.refl w.heap.size w)
  go_enter Tryd.func49, Tryd.ntmps49
  go_wp2_with fail
  go_loopw [5, 10] (fun s5 s10 wr => ∃ k : Nat, s10 = .int .i64 k ∧ k ≤ xs.length ∧ OwnI w.heap.size wr s5 ((xs.take k).filter fun x => decide (x ∈ ys)) ∧ Below w.heap.size w wr) (fun _ s10 _ => xs.length - (intOf s10).toNat)
  case atStart => exact ⟨0, rfl, Nat.zero_le _, HN.out, HB0.out⟩
  case round =>
    obtain ⟨k, rfl, hk, hown, hb⟩ := hrel
    by_cases hlt : k < xs.length
    · obtain ⟨g', o', rfl, _, hg, hcell⟩ := HC.out k hlt
      have hcell := (hb.cell (p := ⟨g', o' + k, none⟩) hg).trans hcell
      have HI := Lib.hid (in_any (xs.getD k 0) wr (HY.out.below hb))
      have HYK := Lib.hid (HFY.out k hlt)
      have HNK := Lib.hid (HFN.out k hlt)
      have hfl := HFL.out k
      have HB := Lib.hid hb
      have HO := Lib.hid hown
      clear hb hown
      generalize (xs.take k).filter (fun x => decide (x ∈ ys)) = zs at HYK HNK HO hfl
      generalize xs.getD k 0 = x at hcell HI HYK HNK
      go_wp2_with fail
      refine (HI.out).mono ?_
      rintro e y ⟨rfl, rfl⟩
      by_cases hd : x ∈ ys
      · rw [decide_eq_true hd]
        have HE := Lib.hid (HYK.out (by simp [hd]))
        clear HYK HNK
        go_wp2_with (at_builtin; refine append_int rfl (.tmp 17) (.tmp 19) rfl HB.out HO.out rfl rfl (by omega) ?_; intro v' w2 ho hb)
        have HO2 := Lib.hid ho
        have HB2 := Lib.hid hb
        clear ho hb
        go_wp2_with fail
        go_roundw
        case rel => exact ⟨k + 1, by go_num, by omega, by rw [HE.out]; exact HO2.out, HB2.out⟩
        case measure => simp [intOf]; omega
      · rw [decide_eq_false hd]
        have HE := Lib.hid (HNK.out (by simp [hd]))
        clear HYK HNK
        go_wp2_with fail
        go_roundw
        case rel => exact ⟨k + 1, by go_num, by omega, by rw [HE.out]; exact HO.out, HB.out⟩
        case measure => simp [intOf]; omega
    · have e : k = xs.length := by omega
      subst e
      rw [HF0.out] at hown
      have HO := Lib.hid (hown.ints (by have := List.length_filter_le (fun x => decide (x ∈ ys)) xs; omega))
      have HB := Lib.hid hb
      clear hown hb
      go_wp2
      go_ret
      exact ⟨⟨_, rfl, HO.out⟩, HB.out⟩
set_option maxHeartbeats 2000000 in
set_option maxRecDepth 100000 in
theorem movedl_any {b1 : Nat} {v : Value} {xs : List Int} {n k : Int} (w : World) (hx : Ints b1 w v xs) (hl : xs.length ≤ 400000) (h0 : 0 ≤ n) (hn : n ≤ 65536) (hbd : ∀ j, j < xs.length → 0 ≤ xs.getD j 0 ∧ xs.getD j 0 ≤ 65536) :
    Calls Tryd.prog 50 #[v, .int .i64 n, .int .i64 k] w (ListNew (movedL n k xs) w) := by
  obtain ⟨p, c, rfl, _, hc⟩ := hx.open_
  by_cases hc0 : n ≤ k ∨ k ≤ -n
  · have hP : Hid (ListNew (movedL n k xs) w (.returned (.slice none 0 0)) w) := Lib.hid ⟨⟨_, rfl, by unfold movedL; rw [if_pos hc0]; exact Ints.nil⟩, Below.refl _ _⟩
    generalize ListNew (movedL n k xs) w = Post at hP ⊢
    clear hc hx hbd
    have hneg : IntKind.i64.wrap (-n) = -n := by rw [IntKind.wrap_i64]; omega
    by_cases h1 : n ≤ k
    · go_enter Tryd.func50, Tryd.ntmps50
      go_wp2
      exact hP.out
    · have h2 : k ≤ -n := by omega
      go_enter Tryd.func50, Tryd.ntmps50
      go_wp2
      exact hP.out
  · have h1 : k < n := by omega
    have h2 : -n < k := by omega
    have hneg : IntKind.i64.wrap (-n) = -n := by rw [IntKind.wrap_i64]; omega
    have he : movedL n k xs = (xs.filter fun x => decide (0 ≤ x + k ∧ x + k < n)).map (· + k) := by unfold movedL; rw [if_neg hc0]
    rw [he]
    have HC := Lib.hid hc
    have HBD := Lib.hid hbd
    have HFY : Hid (∀ j, j < xs.length → (0 ≤ xs.getD j 0 + k ∧ xs.getD j 0 + k < n) → ((xs.take (j + 1)).filter (fun x => decide (0 ≤ x + k ∧ x + k < n))).map (· + k) = ((xs.take j).filter (fun x => decide (0 ≤ x + k ∧ x + k < n))).map (· + k) ++ [xs.getD j 0 + k]) := Lib.hid fun j hj h => by
      rw [filter_yes hj (decide_eq_true h), List.map_append]; rfl
    have HFN : Hid (∀ j, j < xs.length → ¬ (0 ≤ xs.getD j 0 + k ∧ xs.getD j 0 + k < n) → ((xs.take (j + 1)).filter (fun x => decide (0 ≤ x + k ∧ x + k < n))).map (· + k) = ((xs.take j).filter (fun x => decide (0 ≤ x + k ∧ x + k < n))).map (· + k)) := Lib.hid fun j hj h => by
      rw [filter_no hj (decide_eq_false h)]
    have HFL : Hid (∀ j, (((xs.take j).filter (fun x => decide (0 ≤ x + k ∧ x + k < n))).map (· + k)).length ≤ xs.length) := Lib.hid fun j => by rw [List.length_map]; exact filter_len
    have HF0 : Hid (((xs.take xs.length).filter (fun x => decide (0 ≤ x + k ∧ x + k < n))).map (· + k) = (xs.filter (fun x => decide (0 ≤ x + k ∧ x + k < n))).map (· + k)) := Lib.hid (by rw [List.take_length])
    clear hc hx hc0 he hbd
    have HN := Lib.hid (OwnI.nil w.heap.size w)
    have HB0 := Lib.hid (Below.refl w.heap.size w)
    go_enter Tryd.func50, Tryd.ntmps50
    go_wp2_with fail
    go_loopw [7, 22] (fun s7 s22 wr => ∃ j : Nat, s22 = .int .i64 j ∧ j ≤ xs.length ∧ OwnI w.heap.size wr s7 (((xs.take j).filter (fun x => decide (0 ≤ x + k ∧ x + k < n))).map (· + k)) ∧ Below w.heap.size w wr) (fun _ s22 _ => xs.length - (intOf s22).toNat)
    case atStart => exact ⟨0, rfl, Nat.zero_le _, HN.out, HB0.out⟩
    case round =>
      obtain ⟨j, rfl, hj, hown, hb⟩ := hrel
      by_cases hlt : j < xs.length
      · obtain ⟨g', o', rfl, _, hg, hcell⟩ := HC.out j hlt
        have hcell := (hb.cell (p := ⟨g', o' + j, none⟩) hg).trans hcell
        have HYK := Lib.hid (HFY.out j hlt)
        have HNK := Lib.hid (HFN.out j hlt)
        obtain ⟨hx0, hx1⟩ := HBD.out j hlt
        have hfl := HFL.out j
        have HB := Lib.hid hb
        have HO := Lib.hid hown
        clear hb hown
        generalize ((xs.take j).filter (fun x => decide (0 ≤ x + k ∧ x + k < n))).map (· + k) = zs at HYK HNK HO hfl
        generalize xs.getD j 0 = x at hcell HYK HNK hx0 hx1
        by_cases h3 : 0 ≤ x + k
        · by_cases h4 : x + k < n
          · have HE := Lib.hid (HYK.out ⟨h3, h4⟩)
            clear HYK HNK
            go_wp2_with (at_builtin; refine append_int rfl (.tmp 37) (.tmp 41) rfl HB.out HO.out rfl rfl (by omega) ?_; intro v' w2 ho hb)
            have HO2 := Lib.hid ho
            have HB2 := Lib.hid hb
            clear ho hb
            go_wp2_with fail
            go_roundw
            case rel => exact ⟨j + 1, by go_num, by omega, by rw [HE.out]; exact HO2.out, HB2.out⟩
            case measure => simp [intOf]; omega
          · have HE := Lib.hid (HNK.out (fun h => h4 h.2))
            clear HYK HNK
            go_wp2_with fail
            go_roundw
            case rel => exact ⟨j + 1, by go_num, by omega, by rw [HE.out]; exact HO.out, HB.out⟩
            case measure => simp [intOf]; omega
        · have HE := Lib.hid (HNK.out (fun h => h3 h.1))
          clear HYK HNK
          go_wp2_with fail
          go_roundw
          case rel => exact ⟨j + 1, by go_num, by omega, by rw [HE.out]; exact HO.out, HB.out⟩
          case measure => simp [intOf]; omega
      · have e : j = xs.length := by omega
        subst e
        rw [HF0.out] at hown
        have HO := Lib.hid (hown.ints (by rw [List.length_map]; have := List.length_filter_le (fun x => decide (0 ≤ x + k ∧ x + k < n)) xs; omega))
        have HB := Lib.hid hb
        clear hown hb
        go_wp2
        go_ret
        exact ⟨⟨_, rfl, HO.out⟩, HB.out⟩
end Go.Proofs.YtoakpmbiplmpbaaDoor.Bits
