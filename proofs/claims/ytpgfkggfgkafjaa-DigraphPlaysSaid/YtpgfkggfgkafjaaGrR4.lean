/-
  Contract of the document's digraphs: Next. Not a statement of the seat.
-/
import Derived.Test.YtpgfkggfgkafjaaGrR3
namespace Go.Proofs.Ytpgfkggfgkafjaa.Gr
open Go.ChangeShapes Go.WideShapes Go.ChangeAt Go.RowKit Base F Rf Lst
open Go.Proofs.Ytpgfkggfgkafjaa.Tx (Aft Aft.refl Aft.lay Aft.trans Aft.one Aft.cell Aft.drew BoolNew)
theorem ownI_less {B B' : Nat} {w : World} {v : Value} {zs : List Int} (h : OwnI B w v zs) (hb : B' ≤ B) : OwnI B' w v zs := by
  refine ⟨h.1, ?_⟩
  rcases h.2 with h2 | ⟨g, cap, cur, h1, h2, h3⟩
  · exact .inl h2
  · exact .inr ⟨g, cap, cur, h1, Nat.le_trans hb h2, h3⟩
/-- The nodes on a side of one, as the document tells them. -/
def sideO (xs : List Arc) (node : Int) (back : Bool) : List Int := if back then keysL ((xs.filter fun x => x.to == node).map fun x => x.fr) else keysL ((xs.filter fun x => x.fr == node).map fun x => x.to)
set_option maxRecDepth 100000 in
set_option maxHeartbeats 4000000 in
theorem gnext_fwd {base : Nat} {v : Value} {xs : List Arc} (node : Int) (w : World) (h : Arcs base w v xs) (hl : xs.length ≤ 50000) : Calls Try.prog 24 #[v, .int .i64 node, .bool false] w (OwnNew (sideO xs node false) w) := by
  obtain ⟨p, c, rfl, hlm, hc⟩ := h.open_
  have HT := Lib.hid hc
  have hs : ∀ l : List Arc, sideO l node false = keysL ((l.filter fun x => x.fr == node).map fun x => x.to) := fun l => rfl
  rw [hs]
  have HS0 : Hid (Rf.Way w w (.slice none 0 0) (keysL (((xs.take 0).filter fun x => x.fr == node).map fun x => x.to))) := Lib.hid (by simp [keysL]; exact Rf.Way.nil)
  have HE : Hid (∀ v1 w', Rf.Way w w' v1 (keysL ((xs.filter fun x => x.fr == node).map fun x => x.to)) → OwnNew (keysL ((xs.filter fun x => x.fr == node).map fun x => x.to)) w (.returned v1) w') := Lib.hid fun v1 w' h1 => ⟨v1, rfl, h1.1, h1.2⟩
  generalize OwnNew (keysL ((xs.filter fun x => x.fr == node).map fun x => x.to)) w = Post at HE ⊢
  clear h hc hs
  go_enter Try.func24, Try.ntmps24
  go_wp2_with fail
  go_loopw [7, 12] (fun s7 s12 wr => ∃ k : Nat, s12 = .int .i64 (k : Int) ∧ k ≤ xs.length ∧ Hid (Rf.Way w wr s7 (keysL (((xs.take k).filter fun x => x.fr == node).map fun x => x.to)))) (fun _ s12 _ => xs.length - (intOf s12).toNat)
  case atStart => exact ⟨0, rfl, Nat.zero_le _, HS0⟩
  case round =>
    clear HS0
    obtain ⟨k, rfl, hk, HS⟩ := hrel
    by_cases hlt : k < xs.length
    · obtain ⟨g, o, rfl, _, hg, c0, c1, c2, c3⟩ := HT.out k hlt
      have c0 := HS.out.2.cell hg c0
      have c1 := HS.out.2.cell hg c1
      have c2 := HS.out.2.cell hg c2
      have c3 := HS.out.2.cell hg c3
      have hg := Nat.lt_of_lt_of_le hg HS.out.2.size
      have HSN : Hid (keysL (((xs.take (k + 1)).filter fun x => x.fr == node).map fun x => x.to) = if (xs.getD k Arc.zero).fr == node then putF (xs.getD k Arc.zero).to (keysL (((xs.take k).filter fun x => x.fr == node).map fun x => x.to)) else keysL (((xs.take k).filter fun x => x.fr == node).map fun x => x.to)) := Lib.hid (by
        rw [take_snoc xs Arc.zero k hlt, List.filter_append, List.map_append, List.filter_cons, List.filter_nil]
        split
        · rw [List.map_cons, List.map_nil, keysL_snoc]
        · rw [List.map_nil, List.append_nil])
      have HLN : Hid ((keysL (((xs.take k).filter fun x => x.fr == node).map fun x => x.to)).length ≤ 50000) := Lib.hid (Nat.le_trans (keysL_len _) (by rw [List.length_map]; exact Nat.le_trans (List.length_filter_le _ _) (by rw [List.length_take]; omega)))
      have hkI : (k : Int) < (xs.length : Int) := by omega
      generalize xs.getD k Arc.zero = x at c0 c1 c2 c3 HSN
      generalize keysL (((xs.take k).filter fun x => x.fr == node).map fun x => x.to) = zs at HS HSN HLN
      obtain ⟨x0, x1, x2, x3⟩ := x
      simp only at c0 c1 c2 c3 HSN
      have HW := Lib.hid HS.out
      clear HS HT
      by_cases e : x0 = node
      · have e2 : (x0 == node) = true := by rw [beq_iff_eq]; exact e
        have HN2 := Lib.hid (HSN.out.trans (if_pos e2))
        have HP : Hid (∀ ob, Calls Try.prog 39 #[u7, .int .i64 x1] (wr.alloc ob) fun e w' => ∃ v1, e = .returned v1 ∧ Rf.Way w w' v1 (putF x1 zs)) := Lib.hid fun ob => by
          have hw := HW.out.lay ob
          refine (rPut_any x1 (wr.alloc ob) (hw.1.ints (by have := HLN.out; omega)) (by have := HLN.out; omega)).mono ?_
          rintro e w' ⟨v1, he, h1, h2⟩
          exact ⟨v1, he, ownI_less h1 hw.2.size, hw.2.trans h2⟩
        clear HSN e HW HLN
        go_wp2_with fail
        refine (HP.out _).mono ?_
        rintro e w4 ⟨v1, rfl, hw4⟩
        have HR : Hid (Rf.Way w w4 v1 (keysL (((xs.take (k + 1)).filter fun x => x.fr == node).map fun x => x.to))) := Lib.hid (by rw [HN2.out]; exact hw4)
        clear hw4 HN2 HP
        go_wp2_with fail
        go_roundw
        case rel => exact ⟨k + 1, by go_num, hlt, HR⟩
        case measure => simp [intOf]; omega
      · have e2 : (x0 == node) = false := by rw [beq_eq_false_iff_ne]; exact e
        have HN2 : Hid (∀ ob, Rf.Way w (wr.alloc ob) u7 (keysL (((xs.take (k + 1)).filter fun x => x.fr == node).map fun x => x.to))) := Lib.hid fun ob => by rw [HSN.out, if_neg (by rw [e2]; simp)]; exact HW.out.lay ob
        clear HSN e HW HLN
        go_wp2_with fail
        go_roundw
        case rel => exact ⟨k + 1, by go_num, hlt, Lib.hid (HN2.out _)⟩
        case measure => simp [intOf]; omega
    · have hke : k = xs.length := by omega
      subst hke
      have HR : Hid (Rf.Way w wr u7 (keysL ((xs.filter fun x => x.fr == node).map fun x => x.to))) := Lib.hid (by have := HS.out; rwa [List.take_length] at this)
      clear HS HT hlt hk
      go_wp2_with fail
      exact HE.out _ _ HR.out
set_option maxRecDepth 100000 in
set_option maxHeartbeats 4000000 in
theorem gnext_back {base : Nat} {v : Value} {xs : List Arc} (node : Int) (w : World) (h : Arcs base w v xs) (hl : xs.length ≤ 50000) : Calls Try.prog 24 #[v, .int .i64 node, .bool true] w (OwnNew (sideO xs node true) w) := by
  obtain ⟨p, c, rfl, hlm, hc⟩ := h.open_
  have HT := Lib.hid hc
  have hs : ∀ l : List Arc, sideO l node true = keysL ((l.filter fun x => x.to == node).map fun x => x.fr) := fun l => rfl
  rw [hs]
  have HS0 : Hid (Rf.Way w w (.slice none 0 0) (keysL (((xs.take 0).filter fun x => x.to == node).map fun x => x.fr))) := Lib.hid (by simp [keysL]; exact Rf.Way.nil)
  have HE : Hid (∀ v1 w', Rf.Way w w' v1 (keysL ((xs.filter fun x => x.to == node).map fun x => x.fr)) → OwnNew (keysL ((xs.filter fun x => x.to == node).map fun x => x.fr)) w (.returned v1) w') := Lib.hid fun v1 w' h1 => ⟨v1, rfl, h1.1, h1.2⟩
  generalize OwnNew (keysL ((xs.filter fun x => x.to == node).map fun x => x.fr)) w = Post at HE ⊢
  clear h hc hs
  go_enter Try.func24, Try.ntmps24
  go_wp2_with fail
  go_loopw [7, 12] (fun s7 s12 wr => ∃ k : Nat, s12 = .int .i64 (k : Int) ∧ k ≤ xs.length ∧ Hid (Rf.Way w wr s7 (keysL (((xs.take k).filter fun x => x.to == node).map fun x => x.fr)))) (fun _ s12 _ => xs.length - (intOf s12).toNat)
  case atStart => exact ⟨0, rfl, Nat.zero_le _, HS0⟩
  case round =>
    clear HS0
    obtain ⟨k, rfl, hk, HS⟩ := hrel
    by_cases hlt : k < xs.length
    · obtain ⟨g, o, rfl, _, hg, c0, c1, c2, c3⟩ := HT.out k hlt
      have c0 := HS.out.2.cell hg c0
      have c1 := HS.out.2.cell hg c1
      have c2 := HS.out.2.cell hg c2
      have c3 := HS.out.2.cell hg c3
      have hg := Nat.lt_of_lt_of_le hg HS.out.2.size
      have HSN : Hid (keysL (((xs.take (k + 1)).filter fun x => x.to == node).map fun x => x.fr) = if (xs.getD k Arc.zero).to == node then putF (xs.getD k Arc.zero).fr (keysL (((xs.take k).filter fun x => x.to == node).map fun x => x.fr)) else keysL (((xs.take k).filter fun x => x.to == node).map fun x => x.fr)) := Lib.hid (by
        rw [take_snoc xs Arc.zero k hlt, List.filter_append, List.map_append, List.filter_cons, List.filter_nil]
        split
        · rw [List.map_cons, List.map_nil, keysL_snoc]
        · rw [List.map_nil, List.append_nil])
      have HLN : Hid ((keysL (((xs.take k).filter fun x => x.to == node).map fun x => x.fr)).length ≤ 50000) := Lib.hid (Nat.le_trans (keysL_len _) (by rw [List.length_map]; exact Nat.le_trans (List.length_filter_le _ _) (by rw [List.length_take]; omega)))
      have hkI : (k : Int) < (xs.length : Int) := by omega
      generalize xs.getD k Arc.zero = x at c0 c1 c2 c3 HSN
      generalize keysL (((xs.take k).filter fun x => x.to == node).map fun x => x.fr) = zs at HS HSN HLN
      obtain ⟨x0, x1, x2, x3⟩ := x
      simp only at c0 c1 c2 c3 HSN
      have HW := Lib.hid HS.out
      clear HS HT
      by_cases e : x1 = node
      · have e2 : (x1 == node) = true := by rw [beq_iff_eq]; exact e
        have HN2 := Lib.hid (HSN.out.trans (if_pos e2))
        have HP : Hid (∀ ob, Calls Try.prog 39 #[u7, .int .i64 x0] (wr.alloc ob) fun e w' => ∃ v1, e = .returned v1 ∧ Rf.Way w w' v1 (putF x0 zs)) := Lib.hid fun ob => by
          have hw := HW.out.lay ob
          refine (rPut_any x0 (wr.alloc ob) (hw.1.ints (by have := HLN.out; omega)) (by have := HLN.out; omega)).mono ?_
          rintro e w' ⟨v1, he, h1, h2⟩
          exact ⟨v1, he, ownI_less h1 hw.2.size, hw.2.trans h2⟩
        clear HSN e HW HLN
        go_wp2_with fail
        refine (HP.out _).mono ?_
        rintro e w4 ⟨v1, rfl, hw4⟩
        have HR : Hid (Rf.Way w w4 v1 (keysL (((xs.take (k + 1)).filter fun x => x.to == node).map fun x => x.fr))) := Lib.hid (by rw [HN2.out]; exact hw4)
        clear hw4 HN2 HP
        go_wp2_with fail
        go_roundw
        case rel => exact ⟨k + 1, by go_num, hlt, HR⟩
        case measure => simp [intOf]; omega
      · have e2 : (x1 == node) = false := by rw [beq_eq_false_iff_ne]; exact e
        have HN2 : Hid (∀ ob, Rf.Way w (wr.alloc ob) u7 (keysL (((xs.take (k + 1)).filter fun x => x.to == node).map fun x => x.fr))) := Lib.hid fun ob => by rw [HSN.out, if_neg (by rw [e2]; simp)]; exact HW.out.lay ob
        clear HSN e HW HLN
        go_wp2_with fail
        go_roundw
        case rel => exact ⟨k + 1, by go_num, hlt, Lib.hid (HN2.out _)⟩
        case measure => simp [intOf]; omega
    · have hke : k = xs.length := by omega
      subst hke
      have HR : Hid (Rf.Way w wr u7 (keysL ((xs.filter fun x => x.to == node).map fun x => x.fr))) := Lib.hid (by have := HS.out; rwa [List.take_length] at this)
      clear HS HT hlt hk
      go_wp2_with fail
      exact HE.out _ _ HR.out
end Go.Proofs.Ytpgfkggfgkafjaa.Gr
