/-
  Contracts of small functions, several texts laid into one. Not a statement of the seat.
-/
import Derived.Test.YtakgepdlninnhaaDoorHead12
import Derived.Deep.DeepCutAuto
namespace Go.Proofs.YtakgepdlninnhaaDoor.Gr
open Go.ChangeShapes Go.WideShapes Go.ChangeAt Go.RowKit Base F Rf
open Go.Proofs.YtakgepdlninnhaaDoor.Tx (Aft Aft.refl Aft.lay Aft.trans Aft.one Aft.cell Aft.drew BoolNew)
def lessA (x y : Arc) : Bool := if x.fr = y.fr then (if x.kd = y.kd then (if x.lb = y.lb then decide (x.to < y.to) else decide (x.lb < y.lb)) else decide (x.kd < y.kd)) else decide (x.fr < y.fr)
theorem gless_any (x y : Arc) (w : World) : Calls Tryd.prog 53 #[vA x, vA y] w (BoolNew (lessA x y) w) := by
  obtain ⟨x0, x1, x2, x3⟩ := x
  obtain ⟨y0, y1, y2, y3⟩ := y
  unfold lessA vA
  dsimp only
  by_cases h0 : x0 = y0
  · rw [if_pos h0]
    have b0 : (x0 != y0) = false := by rw [bne_eq_false_iff_eq]; exact h0
    clear h0
    by_cases h2 : x2 = y2
    · rw [if_pos h2]
      have b2 : (x2 != y2) = false := by rw [bne_eq_false_iff_eq]; exact h2
      clear h2
      by_cases h3 : x3 = y3
      · rw [if_pos h3]
        have b3 : (x3 != y3) = false := by rw [bne_eq_false_iff_eq]; exact h3
        clear h3
        go_enter Tryd.func53, Tryd.ntmps53
        go_wp2
        go_ret
        exact ⟨rfl, (Aft.one _).lay _⟩
      · rw [if_neg h3]
        have b3 : (x3 != y3) = true := by rw [bne_iff_ne]; exact h3
        clear h3
        go_enter Tryd.func53, Tryd.ntmps53
        go_wp2
        go_ret
        exact ⟨rfl, (Aft.one _).lay _⟩
    · rw [if_neg h2]
      have b2 : (x2 != y2) = true := by rw [bne_iff_ne]; exact h2
      clear h2
      go_enter Tryd.func53, Tryd.ntmps53
      go_wp2
      go_ret
      exact ⟨rfl, (Aft.one _).lay _⟩
  · rw [if_neg h0]
    have b0 : (x0 != y0) = true := by rw [bne_iff_ne]; exact h0
    clear h0
    go_enter Tryd.func53, Tryd.ntmps53
    go_wp2
    go_ret
    exact ⟨rfl, (Aft.one _).lay _⟩
/-- An arc that is right where there are n nodes, as the document asks. -/
def rightO (n : Nat) (x : Arc) : Prop := (0 ≤ x.fr ∧ x.fr < (n : Int)) ∧ (0 ≤ x.to ∧ x.to < (n : Int)) ∧ (1 ≤ x.kd ∧ x.kd ≤ 3) ∧ 0 ≤ x.lb ∧ x.lb ≤ 1048575
instance (n : Nat) (x : Arc) : Decidable (rightO n x) := by unfold rightO; exact inferInstance
/-- What the document's Put makes, from a place on: one more was put, or not. -/
def goA (a : Arc) (b : Bool) : List Arc → List Arc
  | [] => if b then [] else [a]
  | x :: l => (if b || lessA x a then [] else [a]) ++ ((if Arc.beq x a then [] else [x]) ++ goA a (b || !lessA x a) l)
set_option maxRecDepth 100000 in
set_option maxHeartbeats 8000000 in
theorem gput_any {base : Nat} {v : Value} {xs : List Arc} (a : Arc) (w : World) (h : Arcs base w v xs) (hl : xs.length ≤ 100000) : Calls Tryd.prog 35 #[v, vA a] w (ArcsP (goA a false xs) w) := by
  obtain ⟨p, c, rfl, hlm, hc⟩ := h.open_
  have HT := Lib.hid hc
  have HS0 := Lib.hid (RB.start w a)
  have HE : Hid (∀ v1 w', RA w w' v1 (goA a false xs) → ArcsP (goA a false xs) w (.returned v1) w') := Lib.hid fun v1 w' h1 => ⟨v1, rfl, h1⟩
  have HG0 : Hid ([] ++ goA a false (xs.drop 0) = goA a false xs) := Lib.hid (by simp)
  generalize ArcsP (goA a false xs) w = Post at HE ⊢
  clear h hc
  unfold bxA at HS0
  have hva : vA a = .agg #[.int .i64 a.fr, .int .i64 a.to, .int .i64 a.kd, .int .i64 a.lb] := rfl
  rw [hva]
  clear hva
  go_enter Tryd.func35, Tryd.ntmps35
  go_wp2_with fail
  go_loopw [5, 6, 11] (fun s5 s6 s11 wr => ∃ (k : Nat) (b : Bool) (zs : List Arc), s11 = .int .i64 (k : Int) ∧ s6 = .bool b ∧ k ≤ xs.length ∧ zs.length ≤ 2 * k ∧ Hid (RB w a wr s5 zs ∧ zs ++ goA a b (xs.drop k) = goA a false xs)) (fun _ _ s11 _ => xs.length - (intOf s11).toNat)
  case atStart => exact ⟨0, false, [], rfl, rfl, Nat.zero_le _, by simp, Lib.hid ⟨HS0.out, HG0.out⟩⟩
  case round =>
    clear HS0 HG0
    obtain ⟨k, b, zs, rfl, rfl, hk, hz, HS⟩ := hrel
    by_cases hlt : k < xs.length
    · obtain ⟨g, o, rfl, _, hg, c0, c1, c2, c3⟩ := HT.out k hlt
      have c0 := HS.out.1.1.cell hg c0
      have c1 := HS.out.1.1.cell hg c1
      have c2 := HS.out.1.1.cell hg c2
      have c3 := HS.out.1.1.cell hg c3
      have hg := Nat.lt_of_lt_of_le hg HS.out.1.1.size
      have HD : Hid (zs ++ ((if b || lessA (xs.getD k Arc.zero) a then [] else [a]) ++ ((if Arc.beq (xs.getD k Arc.zero) a then [] else [xs.getD k Arc.zero]) ++ goA a (b || !lessA (xs.getD k Arc.zero) a) (xs.drop (k + 1)))) = goA a false xs) := Lib.hid (by
        have := HS.out.2
        rw [drop_cons xs Arc.zero k hlt, goA] at this
        exact this)
      have hkI : (k : Int) < (xs.length : Int) := by omega
      have heq := fun W => ne_arc (xs.getD k Arc.zero) a W
      have HLS := Lib.hid (fun W => gless_any (xs.getD k Arc.zero) a W)
      generalize xs.getD k Arc.zero = x at c0 c1 c2 c3 HD heq HLS
      generalize Arc.beq x a = q at HD heq
      generalize lessA x a = r at HD HLS
      obtain ⟨x0, x1, x2, x3⟩ := x
      unfold vA at HLS
      simp only at c0 c1 c2 c3 HD heq HLS
      have HRB := Lib.hid HS.out.1
      clear HS HT
      obtain ⟨X, hX⟩ : ∃ X, X = wr.alloc (.cells #[.int .i64 x0, .int .i64 x1, .int .i64 x2, .int .i64 x3] 68) := ⟨_, rfl⟩
      obtain ⟨bx, hbx⟩ : ∃ bx, bx = wr.heap.size := ⟨_, rfl⟩
      have HX : Hid (RB w a X u5 zs ∧ X.heap[bx]? = some (bxA ⟨x0, x1, x2, x3⟩) ∧ ∀ g, u5.ownBlock = some g → g < bx) := Lib.hid ⟨by rw [hX]; exact HRB.out.lay _, by rw [hX, hbx]; exact heap_alloc_at _ _ _ rfl, fun g hg => by rw [hbx]; exact (HRB.out.2.1.base g hg).2⟩
      have HLX := Lib.hid (HLS.out X)
      clear HRB HLS
      cases b with
      | true =>
        go_upto_region 6 with fail
        rw [← hX]
        rw [← hbx]
        clear hX hbx c0 c1 c2 c3 hg HLX
        obtain ⟨d0, d1, d2, d3⟩ := cellsA HX.out.2.1
        obtain ⟨e0, e1, e2, e3⟩ := cellsA HX.out.1.2.2
        have hbxl := heap_lt HX.out.2.1
        have hbwl := heap_lt HX.out.1.2.2
        cases q with
        | true =>
          have HN : Hid (zs ++ goA a true (xs.drop (k + 1)) = goA a false xs) := Lib.hid (by have := HD.out; simpa using this)
          clear HD
          go_wp2_with fail
          go_roundw
          case rel => exact ⟨k + 1, true, zs, by go_num, rfl, hlt, by omega, Lib.hid ⟨HX.out.1, HN.out⟩⟩
          case measure => simp [intOf]; omega
        | false =>
          have HN : Hid ((zs ++ [⟨x0, x1, x2, x3⟩]) ++ goA a true (xs.drop (k + 1)) = goA a false xs) := Lib.hid (by have := HD.out; simpa using this)
          clear HD
          go_wp2_with (at_builtin; refine append_arcs rfl (.tmp 30) (.tmp 32) rfl (HX.out.1.lay _).sz (HX.out.1.lay _).2.1 rfl (arc_at ⟨x0, x1, x2, x3⟩ (heap_alloc_at _ _ _ (by simp))) rfl (by simp; omega) ?_; intro v6 w6 h8 hg8 _; have HR6 : Hid (RB w a w6 v6 (zs ++ [(⟨x0, x1, x2, x3⟩ : Arc)])) := Lib.hid ((HX.out.1.lay _).app h8 hg8); clear h8 hg8)
          go_roundw
          case rel => exact ⟨k + 1, true, _, by go_num, rfl, hlt, by simp only [List.length_append, List.length_cons, List.length_nil]; omega, Lib.hid ⟨HR6.out, HN.out⟩⟩
          case measure => simp [intOf]; omega
      | false =>
        rw [hX] at HLX
        go_upto_region 6 with fail
        rw [← hX]
        rw [← hX] at HLX
        rw [← hbx]
        clear hX hbx c0 c1 c2 c3 hg
        obtain ⟨d0, d1, d2, d3⟩ := cellsA HX.out.2.1
        obtain ⟨e0, e1, e2, e3⟩ := cellsA HX.out.1.2.2
        have hbxl := heap_lt HX.out.2.1
        have hbwl := heap_lt HX.out.1.2.2
        go_wp2_with fail
        refine HLX.out.mono ?_
        rintro e w4 ⟨rfl, ha⟩
        have HX4 : Hid (RB w a w4 u5 zs ∧ w4.heap[bx]? = some (bxA ⟨x0, x1, x2, x3⟩) ∧ ∀ g, u5.ownBlock = some g → g < bx) := Lib.hid ⟨HX.out.1.aft ha, (ha.block _ (heap_lt HX.out.2.1)).trans HX.out.2.1, HX.out.2.2⟩
        clear ha HLX HX d0 d1 d2 d3 e0 e1 e2 e3 hbxl hbwl
        obtain ⟨d0, d1, d2, d3⟩ := cellsA HX4.out.2.1
        obtain ⟨e0, e1, e2, e3⟩ := cellsA HX4.out.1.2.2
        have hbxl := heap_lt HX4.out.2.1
        have hbwl := heap_lt HX4.out.1.2.2
        cases r with
        | true =>
          cases q with
          | true =>
            have HN : Hid (zs ++ goA a false (xs.drop (k + 1)) = goA a false xs) := Lib.hid (by have := HD.out; simpa using this)
            clear HD
            go_wp2_with fail
            go_roundw
            case rel => exact ⟨k + 1, false, zs, by go_num, rfl, hlt, by omega, Lib.hid ⟨HX4.out.1, HN.out⟩⟩
            case measure => simp [intOf]; omega
          | false =>
            have HN : Hid ((zs ++ [⟨x0, x1, x2, x3⟩]) ++ goA a false (xs.drop (k + 1)) = goA a false xs) := Lib.hid (by have := HD.out; simpa using this)
            clear HD
            go_wp2_with (at_builtin; refine append_arcs rfl (.tmp 30) (.tmp 32) rfl (HX4.out.1.lay _).sz (HX4.out.1.lay _).2.1 rfl (arc_at ⟨x0, x1, x2, x3⟩ (heap_alloc_at _ _ _ (by simp))) rfl (by simp; omega) ?_; intro v6 w6 h8 hg8 _; have HR6 : Hid (RB w a w6 v6 (zs ++ [(⟨x0, x1, x2, x3⟩ : Arc)])) := Lib.hid ((HX4.out.1.lay _).app h8 hg8); clear h8 hg8)
            go_roundw
            case rel => exact ⟨k + 1, false, _, by go_num, rfl, hlt, by simp only [List.length_append, List.length_cons, List.length_nil]; omega, Lib.hid ⟨HR6.out, HN.out⟩⟩
            case measure => simp [intOf]; omega
        | false =>
          cases q with
          | true =>
            have HN : Hid ((zs ++ [a]) ++ goA a true (xs.drop (k + 1)) = goA a false xs) := Lib.hid (by have := HD.out; simpa using this)
            clear HD
            go_wp2_with (at_builtin; refine append_arcs rfl (.tmp 23) (.tmp 25) rfl (HX4.out.1.lay _).sz (HX4.out.1.lay _).2.1 rfl (arc_at a (heap_alloc_at _ _ _ (by simp))) rfl (by simp; omega) ?_; intro v5 w5 h8 hg8 _; have HR5 : Hid (RB w a w5 v5 (zs ++ [a])) := Lib.hid ((HX4.out.1.lay _).app h8 hg8); have HX5 : Hid (w5.heap[bx]? = some (bxA ⟨x0, x1, x2, x3⟩)) := Lib.hid ((hg8.block bx (by simp only [World.size_alloc]; omega) (fun e => by have := HX4.out.2.2 _ e.symm; omega)).trans ((Below.heap_alloc _ _ _ hbxl).trans HX4.out.2.1)); have hbx5 := heap_lt HX5.out; have hbw5 := heap_lt HR5.out.2.2; obtain ⟨f0, f1, f2, f3⟩ := cellsA HX5.out; obtain ⟨i0, i1, i2, i3⟩ := cellsA HR5.out.2.2; clear h8 hg8)
            go_roundw
            case rel => exact ⟨k + 1, true, _, by go_num, rfl, hlt, by simp only [List.length_append, List.length_cons, List.length_nil]; omega, Lib.hid ⟨HR5.out, HN.out⟩⟩
            case measure => simp [intOf]; omega
          | false =>
            have HN : Hid ((zs ++ [a] ++ [⟨x0, x1, x2, x3⟩]) ++ goA a true (xs.drop (k + 1)) = goA a false xs) := Lib.hid (by have := HD.out; simpa using this)
            clear HD
            go_wp2_with (first | (at_builtin; refine append_arcs rfl (.tmp 23) (.tmp 25) rfl (HX4.out.1.lay _).sz (HX4.out.1.lay _).2.1 rfl (arc_at a (heap_alloc_at _ _ _ (by simp))) rfl (by simp; omega) ?_; intro v5 w5 h8 hg8 _; have HR5 : Hid (RB w a w5 v5 (zs ++ [a])) := Lib.hid ((HX4.out.1.lay _).app h8 hg8); have HX5 : Hid (w5.heap[bx]? = some (bxA ⟨x0, x1, x2, x3⟩)) := Lib.hid ((hg8.block bx (by simp only [World.size_alloc]; omega) (fun e => by have := HX4.out.2.2 _ e.symm; omega)).trans ((Below.heap_alloc _ _ _ hbxl).trans HX4.out.2.1)); have hbx5 := heap_lt HX5.out; have hbw5 := heap_lt HR5.out.2.2; obtain ⟨f0, f1, f2, f3⟩ := cellsA HX5.out; obtain ⟨i0, i1, i2, i3⟩ := cellsA HR5.out.2.2; clear h8 hg8) | (at_builtin; refine append_arcs rfl (.tmp 30) (.tmp 32) rfl (HR5.out.lay _).sz (HR5.out.lay _).2.1 rfl (arc_at ⟨x0, x1, x2, x3⟩ (heap_alloc_at _ _ _ (by simp))) rfl (by simp; omega) ?_; intro v6 w6 h8 hg8 _; have HR6 : Hid (RB w a w6 v6 ((zs ++ [a]) ++ [(⟨x0, x1, x2, x3⟩ : Arc)])) := Lib.hid ((HR5.out.lay _).app h8 hg8); clear h8 hg8))
            go_roundw
            case rel => exact ⟨k + 1, true, _, by go_num, rfl, hlt, by simp only [List.length_append, List.length_cons, List.length_nil]; omega, Lib.hid ⟨HR6.out, HN.out⟩⟩
            case measure => simp [intOf]; omega
    · have hke : k = xs.length := by omega
      subst hke
      have hd : xs.drop xs.length = [] := List.drop_length
      cases b with
      | true =>
        have HR : Hid (RA w wr u5 (goA a false xs)) := Lib.hid (by have := HS.out.2; rw [hd] at this; simp only [goA, if_true, List.append_nil] at this; rw [← this]; exact HS.out.1.ra)
        clear HS HT hlt hk hd
        go_wp2_with fail
        exact HE.out _ _ HR.out
      | false =>
        have HR : Hid (zs ++ [a] = goA a false xs) := Lib.hid (by have := HS.out.2; rw [hd] at this; simpa [goA] using this)
        obtain ⟨e0, e1, e2, e3⟩ := cellsA HS.out.1.2.2
        have hbwl := heap_lt HS.out.1.2.2
        have HRB := Lib.hid HS.out.1
        clear HS HT hlt hk hd
        go_wp2_with (at_builtin; refine append_arcs rfl (.tmp 37) (.tmp 39) rfl (HRB.out.lay _).sz (HRB.out.lay _).2.1 rfl (arc_at a (heap_alloc_at _ _ _ (by simp))) rfl (by simp only [List.length_cons, List.length_nil]; omega) ?_; intro v8 w8 h8 hg8 _; have HR8 : Hid (RA w w8 v8 (goA a false xs)) := Lib.hid (by rw [← HR.out]; exact ((HRB.out.lay _).app h8 hg8).ra); clear h8 hg8)
        exact HE.out _ _ HR8.out
end Go.Proofs.YtakgepdlninnhaaDoor.Gr
namespace Go.Proofs.YtakgepdlninnhaaDoor.Gr
open Go.ChangeShapes Go.WideShapes Go.ChangeAt Go.RowKit Base F Rf Lst
open Go.Proofs.YtakgepdlninnhaaDoor.Tx (Aft Aft.refl Aft.lay Aft.trans Aft.one Aft.cell Aft.drew BoolNew)
theorem ownI_less {B B' : Nat} {w : World} {v : Value} {zs : List Int} (h : OwnI B w v zs) (hb : B' ≤ B) : OwnI B' w v zs := by
  refine ⟨h.1, ?_⟩
  rcases h.2 with h2 | ⟨g, cap, cur, h1, h2, h3⟩
  · exact .inl h2
  · exact .inr ⟨g, cap, cur, h1, Nat.le_trans hb h2, h3⟩
/-- The nodes on a side of one, as the document tells them. -/
def sideO (xs : List Arc) (node : Int) (back : Bool) : List Int := if back then keysL ((xs.filter fun x => x.to == node).map fun x => x.fr) else keysL ((xs.filter fun x => x.fr == node).map fun x => x.to)
set_option maxRecDepth 100000 in
set_option maxHeartbeats 4000000 in
theorem gnext_fwd {base : Nat} {v : Value} {xs : List Arc} (node : Int) (w : World) (h : Arcs base w v xs) (hl : xs.length ≤ 50000) : Calls Tryd.prog 36 #[v, .int .i64 node, .bool false] w (OwnNew (sideO xs node false) w) := by
  obtain ⟨p, c, rfl, hlm, hc⟩ := h.open_
  have HT := Lib.hid hc
  have hs : ∀ l : List Arc, sideO l node false = keysL ((l.filter fun x => x.fr == node).map fun x => x.to) := fun l => rfl
  rw [hs]
  have HS0 : Hid (Rf.Way w w (.slice none 0 0) (keysL (((xs.take 0).filter fun x => x.fr == node).map fun x => x.to))) := Lib.hid (by simp [keysL]; exact Rf.Way.nil)
  have HE : Hid (∀ v1 w', Rf.Way w w' v1 (keysL ((xs.filter fun x => x.fr == node).map fun x => x.to)) → OwnNew (keysL ((xs.filter fun x => x.fr == node).map fun x => x.to)) w (.returned v1) w') := Lib.hid fun v1 w' h1 => ⟨v1, rfl, h1.1, h1.2⟩
  generalize OwnNew (keysL ((xs.filter fun x => x.fr == node).map fun x => x.to)) w = Post at HE ⊢
  clear h hc hs
  go_enter Tryd.func36, Tryd.ntmps36
  go_wp2_with fail
  go_loopw [7, 12] (fun s7 s12 wr => ∃ k : Nat, s12 = .int .i64 (k : Int) ∧ k ≤ xs.length ∧ Hid (Rf.Way w wr s7 (keysL (((xs.take k).filter fun x => x.fr == node).map fun x => x.to)))) (fun _ s12 _ => xs.length - (intOf s12).toNat)
  case atStart => exact ⟨0, rfl, Nat.zero_le _, HS0⟩
  case round =>
    clear HS0
    obtain ⟨k, rfl, hk, HS⟩ := hrel
    by_cases hlt : k < xs.length
    · obtain ⟨g, o, rfl, _, hg, c0, c1, c2, c3⟩ := HT.out k hlt
      have c0 := HS.out.2.cell hg c0
      have c1 := HS.out.2.cell hg c1
      have c2 := HS.out.2.cell hg c2
      have c3 := HS.out.2.cell hg c3
      have hg := Nat.lt_of_lt_of_le hg HS.out.2.size
      have HSN : Hid (keysL (((xs.take (k + 1)).filter fun x => x.fr == node).map fun x => x.to) = if (xs.getD k Arc.zero).fr == node then putF (xs.getD k Arc.zero).to (keysL (((xs.take k).filter fun x => x.fr == node).map fun x => x.to)) else keysL (((xs.take k).filter fun x => x.fr == node).map fun x => x.to)) := Lib.hid (by
        rw [take_snoc xs Arc.zero k hlt, List.filter_append, List.map_append, List.filter_cons, List.filter_nil]
        split
        · rw [List.map_cons, List.map_nil, keysL_snoc]
        · rw [List.map_nil, List.append_nil])
      have HLN : Hid ((keysL (((xs.take k).filter fun x => x.fr == node).map fun x => x.to)).length ≤ 50000) := Lib.hid (Nat.le_trans (keysL_len _) (by rw [List.length_map]; exact Nat.le_trans (List.length_filter_le _ _) (by rw [List.length_take]; omega)))
      have hkI : (k : Int) < (xs.length : Int) := by omega
      generalize xs.getD k Arc.zero = x at c0 c1 c2 c3 HSN
      generalize keysL (((xs.take k).filter fun x => x.fr == node).map fun x => x.to) = zs at HS HSN HLN
      obtain ⟨x0, x1, x2, x3⟩ := x
      simp only at c0 c1 c2 c3 HSN
      have HW := Lib.hid HS.out
      clear HS HT
      by_cases e : x0 = node
      · have e2 : (x0 == node) = true := by rw [beq_iff_eq]; exact e
        have HN2 := Lib.hid (HSN.out.trans (if_pos e2))
        have HP : Hid (∀ ob, Calls Tryd.prog 37 #[u7, .int .i64 x1] (wr.alloc ob) fun e w' => ∃ v1, e = .returned v1 ∧ Rf.Way w w' v1 (putF x1 zs)) := Lib.hid fun ob => by
          have hw := HW.out.lay ob
          refine (rPut_any x1 (wr.alloc ob) (hw.1.ints (by have := HLN.out; omega)) (by have := HLN.out; omega)).mono ?_
          rintro e w' ⟨v1, he, h1, h2⟩
          exact ⟨v1, he, ownI_less h1 hw.2.size, hw.2.trans h2⟩
        clear HSN e HW HLN
        go_wp2_with fail
        refine (HP.out _).mono ?_
        rintro e w4 ⟨v1, rfl, hw4⟩
        have HR : Hid (Rf.Way w w4 v1 (keysL (((xs.take (k + 1)).filter fun x => x.fr == node).map fun x => x.to))) := Lib.hid (by rw [HN2.out]; exact hw4)
        clear hw4 HN2 HP
        go_wp2_with fail
        go_roundw
        case rel => exact ⟨k + 1, by go_num, hlt, HR⟩
        case measure => simp [intOf]; omega
      · have e2 : (x0 == node) = false := by rw [beq_eq_false_iff_ne]; exact e
        have HN2 : Hid (∀ ob, Rf.Way w (wr.alloc ob) u7 (keysL (((xs.take (k + 1)).filter fun x => x.fr == node).map fun x => x.to))) := Lib.hid fun ob => by rw [HSN.out, if_neg (by rw [e2]; simp)]; exact HW.out.lay ob
        clear HSN e HW HLN
        go_wp2_with fail
        go_roundw
        case rel => exact ⟨k + 1, by go_num, hlt, Lib.hid (HN2.out _)⟩
        case measure => simp [intOf]; omega
    · have hke : k = xs.length := by omega
      subst hke
      have HR : Hid (Rf.Way w wr u7 (keysL ((xs.filter fun x => x.fr == node).map fun x => x.to))) := Lib.hid (by have := HS.out; rwa [List.take_length] at this)
      clear HS HT hlt hk
      go_wp2_with fail
      exact HE.out _ _ HR.out
set_option maxRecDepth 100000 in
set_option maxHeartbeats 4000000 in
theorem gnext_back {base : Nat} {v : Value} {xs : List Arc} (node : Int) (w : World) (h : Arcs base w v xs) (hl : xs.length ≤ 50000) : Calls Tryd.prog 36 #[v, .int .i64 node, .bool true] w (OwnNew (sideO xs node true) w) := by
  obtain ⟨p, c, rfl, hlm, hc⟩ := h.open_
  have HT := Lib.hid hc
  have hs : ∀ l : List Arc, sideO l node true = keysL ((l.filter fun x => x.to == node).map fun x => x.fr) := fun l => rfl
  rw [hs]
  have HS0 : Hid (Rf.Way w w (.slice none 0 0) (keysL (((xs.take 0).filter fun x => x.to == node).map fun x => x.fr))) := Lib.hid (by simp [keysL]; exact Rf.Way.nil)
  have HE : Hid (∀ v1 w', Rf.Way w w' v1 (keysL ((xs.filter fun x => x.to == node).map fun x => x.fr)) → OwnNew (keysL ((xs.filter fun x => x.to == node).map fun x => x.fr)) w (.returned v1) w') := Lib.hid fun v1 w' h1 => ⟨v1, rfl, h1.1, h1.2⟩
  generalize OwnNew (keysL ((xs.filter fun x => x.to == node).map fun x => x.fr)) w = Post at HE ⊢
  clear h hc hs
  go_enter Tryd.func36, Tryd.ntmps36
  go_wp2_with fail
  go_loopw [7, 12] (fun s7 s12 wr => ∃ k : Nat, s12 = .int .i64 (k : Int) ∧ k ≤ xs.length ∧ Hid (Rf.Way w wr s7 (keysL (((xs.take k).filter fun x => x.to == node).map fun x => x.fr)))) (fun _ s12 _ => xs.length - (intOf s12).toNat)
  case atStart => exact ⟨0, rfl, Nat.zero_le _, HS0⟩
  case round =>
    clear HS0
    obtain ⟨k, rfl, hk, HS⟩ := hrel
    by_cases hlt : k < xs.length
    · obtain ⟨g, o, rfl, _, hg, c0, c1, c2, c3⟩ := HT.out k hlt
      have c0 := HS.out.2.cell hg c0
      have c1 := HS.out.2.cell hg c1
      have c2 := HS.out.2.cell hg c2
      have c3 := HS.out.2.cell hg c3
      have hg := Nat.lt_of_lt_of_le hg HS.out.2.size
      have HSN : Hid (keysL (((xs.take (k + 1)).filter fun x => x.to == node).map fun x => x.fr) = if (xs.getD k Arc.zero).to == node then putF (xs.getD k Arc.zero).fr (keysL (((xs.take k).filter fun x => x.to == node).map fun x => x.fr)) else keysL (((xs.take k).filter fun x => x.to == node).map fun x => x.fr)) := Lib.hid (by
        rw [take_snoc xs Arc.zero k hlt, List.filter_append, List.map_append, List.filter_cons, List.filter_nil]
        split
        · rw [List.map_cons, List.map_nil, keysL_snoc]
        · rw [List.map_nil, List.append_nil])
      have HLN : Hid ((keysL (((xs.take k).filter fun x => x.to == node).map fun x => x.fr)).length ≤ 50000) := Lib.hid (Nat.le_trans (keysL_len _) (by rw [List.length_map]; exact Nat.le_trans (List.length_filter_le _ _) (by rw [List.length_take]; omega)))
      have hkI : (k : Int) < (xs.length : Int) := by omega
      generalize xs.getD k Arc.zero = x at c0 c1 c2 c3 HSN
      generalize keysL (((xs.take k).filter fun x => x.to == node).map fun x => x.fr) = zs at HS HSN HLN
      obtain ⟨x0, x1, x2, x3⟩ := x
      simp only at c0 c1 c2 c3 HSN
      have HW := Lib.hid HS.out
      clear HS HT
      by_cases e : x1 = node
      · have e2 : (x1 == node) = true := by rw [beq_iff_eq]; exact e
        have HN2 := Lib.hid (HSN.out.trans (if_pos e2))
        have HP : Hid (∀ ob, Calls Tryd.prog 37 #[u7, .int .i64 x0] (wr.alloc ob) fun e w' => ∃ v1, e = .returned v1 ∧ Rf.Way w w' v1 (putF x0 zs)) := Lib.hid fun ob => by
          have hw := HW.out.lay ob
          refine (rPut_any x0 (wr.alloc ob) (hw.1.ints (by have := HLN.out; omega)) (by have := HLN.out; omega)).mono ?_
          rintro e w' ⟨v1, he, h1, h2⟩
          exact ⟨v1, he, ownI_less h1 hw.2.size, hw.2.trans h2⟩
        clear HSN e HW HLN
        go_wp2_with fail
        refine (HP.out _).mono ?_
        rintro e w4 ⟨v1, rfl, hw4⟩
        have HR : Hid (Rf.Way w w4 v1 (keysL (((xs.take (k + 1)).filter fun x => x.to == node).map fun x => x.fr))) := Lib.hid (by rw [HN2.out]; exact hw4)
        clear hw4 HN2 HP
        go_wp2_with fail
        go_roundw
        case rel => exact ⟨k + 1, by go_num, hlt, HR⟩
        case measure => simp [intOf]; omega
      · have e2 : (x1 == node) = false := by rw [beq_eq_false_iff_ne]; exact e
        have HN2 : Hid (∀ ob, Rf.Way w (wr.alloc ob) u7 (keysL (((xs.take (k + 1)).filter fun x => x.to == node).map fun x => x.fr))) := Lib.hid fun ob => by rw [HSN.out, if_neg (by rw [e2]; simp)]; exact HW.out.lay ob
        clear HSN e HW HLN
        go_wp2_with fail
        go_roundw
        case rel => exact ⟨k + 1, by go_num, hlt, Lib.hid (HN2.out _)⟩
        case measure => simp [intOf]; omega
    · have hke : k = xs.length := by omega
      subst hke
      have HR : Hid (Rf.Way w wr u7 (keysL ((xs.filter fun x => x.to == node).map fun x => x.fr))) := Lib.hid (by have := HS.out; rwa [List.take_length] at this)
      clear HS HT hlt hk
      go_wp2_with fail
      exact HE.out _ _ HR.out
end Go.Proofs.YtakgepdlninnhaaDoor.Gr
