/-
  Contracts of the document's digraphs: Out, Drop, Of. Not a statement of the seat.
-/
import Derived.Test.YtpgfkggfgkafjaaGrR1
namespace Go.Proofs.Ytpgfkggfgkafjaa.Gr
open Go.ChangeShapes Go.WideShapes Go.ChangeAt Go.RowKit Base F Rf
open Go.Proofs.Ytpgfkggfgkafjaa.Tx (Aft Aft.refl Aft.lay Aft.trans Aft.one Aft.cell Aft.drew BoolNew)
set_option maxRecDepth 100000 in
set_option maxHeartbeats 4000000 in
theorem gout_any {base : Nat} {v : Value} {xs : List Arc} (node : Int) (w : World) (h : Arcs base w v xs) (hl : xs.length ≤ 100000) : Calls Try.prog 21 #[v, .int .i64 node] w (ArcsP (xs.filter fun x => x.fr == node) w) := by
  obtain ⟨p, c, rfl, hlm, hc⟩ := h.open_
  have HT := Lib.hid hc
  have HS0 : Hid (RA w w (.slice none 0 0) ((xs.take 0).filter fun x => x.fr == node)) := Lib.hid ⟨Aft.refl _, by simp; exact OwnArc.nil _ _⟩
  have HE : Hid (∀ v1 w', RA w w' v1 (xs.filter fun x => x.fr == node) → ArcsP (xs.filter fun x => x.fr == node) w (.returned v1) w') := Lib.hid fun v1 w' h1 => ⟨v1, rfl, h1⟩
  generalize ArcsP (xs.filter fun x => x.fr == node) w = Post at HE ⊢
  clear h hc
  go_enter Try.func21, Try.ntmps21
  go_wp2_with fail
  go_loopw [5, 10] (fun s5 s10 wr => ∃ k : Nat, s10 = .int .i64 (k : Int) ∧ k ≤ xs.length ∧ Hid (RA w wr s5 ((xs.take k).filter fun x => x.fr == node))) (fun _ s10 _ => xs.length - (intOf s10).toNat)
  case atStart => exact ⟨0, rfl, Nat.zero_le _, HS0⟩
  case round =>
    clear HS0
    obtain ⟨k, rfl, hk, HS⟩ := hrel
    by_cases hlt : k < xs.length
    · obtain ⟨g, o, rfl, _, hg, c0, c1, c2, c3⟩ := HT.out k hlt
      have c0 := HS.out.1.cell hg c0
      have c1 := HS.out.1.cell hg c1
      have c2 := HS.out.1.cell hg c2
      have c3 := HS.out.1.cell hg c3
      have hg := Nat.lt_of_lt_of_le hg HS.out.1.size
      have HSN : Hid ((xs.take (k + 1)).filter (fun x => x.fr == node) = (xs.take k).filter (fun x => x.fr == node) ++ (if (xs.getD k Arc.zero).fr == node then [xs.getD k Arc.zero] else [])) := Lib.hid (by
        rw [take_snoc xs Arc.zero k hlt, List.filter_append, List.filter_cons, List.filter_nil])
      have HLN : Hid (((xs.take k).filter fun x => x.fr == node).length ≤ 100000) := Lib.hid (Nat.le_trans (List.length_filter_le _ _) (by rw [List.length_take]; omega))
      have hkI : (k : Int) < (xs.length : Int) := by omega
      generalize xs.getD k Arc.zero = x at c0 c1 c2 c3 HSN
      generalize (xs.take k).filter (fun x => x.fr == node) = zs at HS HSN HLN
      have HSL : Hid (∀ o, RA w (wr.alloc o) u5 zs) := Lib.hid fun o => HS.out.lay o
      obtain ⟨x0, x1, x2, x3⟩ := x
      simp only at c0 c1 c2 c3 HSN
      clear HS HT
      by_cases e : x0 = node
      · have e2 : (x0 == node) = true := by rw [beq_iff_eq]; exact e
        have HN2 : Hid ((xs.take (k + 1)).filter (fun x => x.fr == node) = zs ++ [⟨x0, x1, x2, x3⟩]) := Lib.hid (by rw [HSN.out, if_pos e2])
        clear HSN e
        go_wp2_with (at_builtin; refine append_arcs rfl (.tmp 18) (.tmp 20) rfl (((HSL.out _).lay _)).1.size (((HSL.out _).lay _)).2 rfl (arc_at ⟨x0, x1, x2, x3⟩ (heap_alloc_at _ _ _ (by simp))) rfl (by have := HLN.out; simp only [List.length_cons, List.length_nil]; omega) ?_; intro v8 w8 h8 hg8 _; have HR : Hid (RA w w8 v8 ((xs.take (k + 1)).filter fun x => x.fr == node)) := Lib.hid (by rw [HN2.out]; exact (((HSL.out _).lay _)).app h8 hg8); clear h8 hg8)
        go_roundw
        case rel => exact ⟨k + 1, by go_num, hlt, HR⟩
        case measure => simp [intOf]; omega
      · have e2 : (x0 == node) = false := by rw [beq_eq_false_iff_ne]; exact e
        have HN2 : Hid (∀ o, RA w (wr.alloc o) u5 ((xs.take (k + 1)).filter fun x => x.fr == node)) := Lib.hid fun o => by rw [HSN.out, if_neg (by simpa using e), List.append_nil]; exact HSL.out o
        clear HSN e HSL
        go_wp2_with fail
        go_roundw
        case rel => exact ⟨k + 1, by go_num, hlt, Lib.hid (HN2.out _)⟩
        case measure => simp [intOf]; omega
    · have hke : k = xs.length := by omega
      subst hke
      have HR : Hid (RA w wr u5 (xs.filter fun x => x.fr == node)) := Lib.hid (by have := HS.out; rw [List.take_length] at this; exact this)
      clear HS HT hlt hk
      go_wp2_with fail
      exact HE.out _ _ HR.out
set_option maxRecDepth 100000 in
set_option maxHeartbeats 4000000 in
theorem gdrop_any {base : Nat} {v : Value} {xs : List Arc} (a : Arc) (w : World) (h : Arcs base w v xs) (hl : xs.length ≤ 100000) : Calls Try.prog 12 #[v, vA a] w (ArcsP (xs.filter fun x => !Arc.beq x a) w) := by
  obtain ⟨p, c, rfl, hlm, hc⟩ := h.open_
  have HT := Lib.hid hc
  have HS0 : Hid (RB w a (w.alloc (bxA a)) (.slice none 0 0) ((xs.take 0).filter fun x => !Arc.beq x a)) := Lib.hid (by simp; exact RB.start w a)
  have HE : Hid (∀ v1 w', RA w w' v1 (xs.filter fun x => !Arc.beq x a) → ArcsP (xs.filter fun x => !Arc.beq x a) w (.returned v1) w') := Lib.hid fun v1 w' h1 => ⟨v1, rfl, h1⟩
  generalize ArcsP (xs.filter fun x => !Arc.beq x a) w = Post at HE ⊢
  clear h hc
  unfold bxA at HS0
  unfold vA
  go_enter Try.func12, Try.ntmps12
  go_wp2_with fail
  go_loopw [5, 10] (fun s5 s10 wr => ∃ k : Nat, s10 = .int .i64 (k : Int) ∧ k ≤ xs.length ∧ Hid (RB w a wr s5 ((xs.take k).filter fun x => !Arc.beq x a))) (fun _ s10 _ => xs.length - (intOf s10).toNat)
  case atStart => exact ⟨0, rfl, Nat.zero_le _, HS0⟩
  case round =>
    clear HS0
    obtain ⟨k, rfl, hk, HS⟩ := hrel
    by_cases hlt : k < xs.length
    · obtain ⟨g, o, rfl, _, hg, c0, c1, c2, c3⟩ := HT.out k hlt
      have c0 := HS.out.1.cell hg c0
      have c1 := HS.out.1.cell hg c1
      have c2 := HS.out.1.cell hg c2
      have c3 := HS.out.1.cell hg c3
      have hg := Nat.lt_of_lt_of_le hg HS.out.1.size
      obtain ⟨d0, d1, d2, d3⟩ := cellsA HS.out.2.2
      have hbl := heap_lt HS.out.2.2
      have HSN : Hid ((xs.take (k + 1)).filter (fun x => !Arc.beq x a) = (xs.take k).filter (fun x => !Arc.beq x a) ++ (if !Arc.beq (xs.getD k Arc.zero) a then [xs.getD k Arc.zero] else [])) := Lib.hid (by
        rw [take_snoc xs Arc.zero k hlt, List.filter_append, List.filter_cons, List.filter_nil])
      have HLN : Hid (((xs.take k).filter fun x => !Arc.beq x a).length ≤ 100000) := Lib.hid (Nat.le_trans (List.length_filter_le _ _) (by rw [List.length_take]; omega))
      have hkI : (k : Int) < (xs.length : Int) := by omega
      have heq := fun W => ne_arc (xs.getD k Arc.zero) a W
      generalize xs.getD k Arc.zero = x at c0 c1 c2 c3 HSN heq
      generalize (xs.take k).filter (fun x => !Arc.beq x a) = zs at HS HSN HLN
      have HSL : Hid (∀ o, RB w a (wr.alloc o) u5 zs) := Lib.hid fun o => HS.out.lay o
      generalize Arc.beq x a = q at HSN heq
      obtain ⟨x0, x1, x2, x3⟩ := x
      simp only at c0 c1 c2 c3 HSN heq
      clear HS HT
      cases q with
      | false =>
        have HN2 : Hid ((xs.take (k + 1)).filter (fun x => !Arc.beq x a) = zs ++ [⟨x0, x1, x2, x3⟩]) := Lib.hid (by rw [HSN.out]; rfl)
        clear HSN
        go_wp2_with (at_builtin; refine append_arcs rfl (.tmp 17) (.tmp 19) rfl (((HSL.out _).lay _)).sz (((HSL.out _).lay _)).2.1 rfl (arc_at ⟨x0, x1, x2, x3⟩ (heap_alloc_at _ _ _ (by simp))) rfl (by have := HLN.out; simp only [List.length_cons, List.length_nil]; omega) ?_; intro v8 w8 h8 hg8 _; have HR : Hid (RB w a w8 v8 ((xs.take (k + 1)).filter fun x => !Arc.beq x a)) := Lib.hid (by rw [HN2.out]; exact (((HSL.out _).lay _)).app h8 hg8); clear h8 hg8)
        go_roundw
        case rel => exact ⟨k + 1, by go_num, hlt, HR⟩
        case measure => simp [intOf]; omega
      | true =>
        have HN2 : Hid (∀ o, RB w a (wr.alloc o) u5 ((xs.take (k + 1)).filter fun x => !Arc.beq x a)) := Lib.hid fun o => by rw [HSN.out, if_neg (by simp), List.append_nil]; exact HSL.out o
        clear HSN HSL
        go_wp2_with fail
        go_roundw
        case rel => exact ⟨k + 1, by go_num, hlt, Lib.hid (HN2.out _)⟩
        case measure => simp [intOf]; omega
    · have hke : k = xs.length := by omega
      subst hke
      have HR : Hid (RA w wr u5 (xs.filter fun x => !Arc.beq x a)) := Lib.hid (by have := HS.out.ra; rw [List.take_length] at this; exact this)
      clear HS HT hlt hk
      go_wp2_with fail
      exact HE.out _ _ HR.out
set_option maxRecDepth 100000 in
set_option maxHeartbeats 4000000 in
theorem gof_any {base : Nat} {v : Value} {xs : List Arc} (mask : Int) (w : World) (h : Arcs base w v xs) (hl : xs.length ≤ 100000) (hk : ∀ x ∈ xs, 0 ≤ x.kd ∧ x.kd < 4) : Calls Try.prog 14 #[v, .int .i64 mask] w (ArcsP (xs.filter fun x => rbit mask x.kd) w) := by
  obtain ⟨p, c, rfl, hlm, hc⟩ := h.open_
  have HT := Lib.hid hc
  have HK := Lib.hid hk
  clear hk
  have HS0 : Hid (RA w w (.slice none 0 0) ((xs.take 0).filter fun x => rbit mask x.kd)) := Lib.hid ⟨Aft.refl _, by simp; exact OwnArc.nil _ _⟩
  have HE : Hid (∀ v1 w', RA w w' v1 (xs.filter fun x => rbit mask x.kd) → ArcsP (xs.filter fun x => rbit mask x.kd) w (.returned v1) w') := Lib.hid fun v1 w' h1 => ⟨v1, rfl, h1⟩
  generalize ArcsP (xs.filter fun x => rbit mask x.kd) w = Post at HE ⊢
  clear h hc
  go_enter Try.func14, Try.ntmps14
  go_wp2_with fail
  go_loopw [5, 10] (fun s5 s10 wr => ∃ k : Nat, s10 = .int .i64 (k : Int) ∧ k ≤ xs.length ∧ Hid (RA w wr s5 ((xs.take k).filter fun x => rbit mask x.kd))) (fun _ s10 _ => xs.length - (intOf s10).toNat)
  case atStart => exact ⟨0, rfl, Nat.zero_le _, HS0⟩
  case round =>
    clear HS0
    obtain ⟨k, rfl, hk, HS⟩ := hrel
    by_cases hlt : k < xs.length
    · obtain ⟨g, o, rfl, _, hg, c0, c1, c2, c3⟩ := HT.out k hlt
      have c0 := HS.out.1.cell hg c0
      have c1 := HS.out.1.cell hg c1
      have c2 := HS.out.1.cell hg c2
      have c3 := HS.out.1.cell hg c3
      have hg := Nat.lt_of_lt_of_le hg HS.out.1.size
      have HBI : Hid (∀ W, Calls Try.prog 33 #[.int .i64 mask, .int .i64 (xs.getD k Arc.zero).kd] W (BoolNew (rbit mask (xs.getD k Arc.zero).kd) W)) := Lib.hid fun W => gbit_any mask _ (HK.out _ (getD_in hlt)) W
      have HSN : Hid ((xs.take (k + 1)).filter (fun x => rbit mask x.kd) = (xs.take k).filter (fun x => rbit mask x.kd) ++ (if rbit mask (xs.getD k Arc.zero).kd then [xs.getD k Arc.zero] else [])) := Lib.hid (by
        rw [take_snoc xs Arc.zero k hlt, List.filter_append, List.filter_cons, List.filter_nil])
      have HLN : Hid (((xs.take k).filter fun x => rbit mask x.kd).length ≤ 100000) := Lib.hid (Nat.le_trans (List.length_filter_le _ _) (by rw [List.length_take]; omega))
      have hkI : (k : Int) < (xs.length : Int) := by omega
      generalize xs.getD k Arc.zero = x at c0 c1 c2 c3 HSN HBI
      generalize (xs.take k).filter (fun x => rbit mask x.kd) = zs at HS HSN HLN
      have HSL : Hid (∀ o, RA w (wr.alloc o) u5 zs) := Lib.hid fun o => HS.out.lay o
      obtain ⟨x0, x1, x2, x3⟩ := x
      simp only at c0 c1 c2 c3 HSN HBI
      clear HS HT
      have HBW := Lib.hid (HBI.out (wr.alloc (.cells #[.int .i64 x0, .int .i64 x1, .int .i64 x2, .int .i64 x3] 29)))
      generalize rbit mask x2 = q at HSN HBW
      have hbx : ∀ W, Aft (wr.alloc (.cells #[.int .i64 x0, .int .i64 x1, .int .i64 x2, .int .i64 x3] 29)) W → W.heap[wr.heap.size]? = some (.cells #[.int .i64 x0, .int .i64 x1, .int .i64 x2, .int .i64 x3] 29) := fun W hW => (hW.block _ (by simp)).trans (heap_alloc_at _ _ _ rfl)
      have HBX := Lib.hid hbx
      clear HBI hbx
      go_wp2_with fail
      refine HBW.out.mono ?_
      rintro e w4 ⟨rfl, ha⟩
      have HRW : Hid (RA w w4 u5 zs) := Lib.hid ((HSL.out _).aft ha)
      obtain ⟨d0, d1, d2, d3⟩ := cellsA (b := ⟨x0, x1, x2, x3⟩) (HBX.out w4 ha)
      clear ha HSL HBX HBW c0 c1 c2 c3 hg
      cases q with
      | true =>
        have HN2 : Hid ((xs.take (k + 1)).filter (fun x => rbit mask x.kd) = zs ++ [⟨x0, x1, x2, x3⟩]) := Lib.hid (by rw [HSN.out]; rfl)
        clear HSN
        go_wp2_with (at_builtin; refine append_arcs rfl (.tmp 18) (.tmp 20) rfl ((HRW.out.lay _)).1.size ((HRW.out.lay _)).2 rfl (arc_at ⟨x0, x1, x2, x3⟩ (heap_alloc_at _ _ _ (by simp))) rfl (by have := HLN.out; simp only [List.length_cons, List.length_nil]; omega) ?_; intro v8 w8 h8 hg8 _; have HR : Hid (RA w w8 v8 ((xs.take (k + 1)).filter fun x => rbit mask x.kd)) := Lib.hid (by rw [HN2.out]; exact ((HRW.out.lay _)).app h8 hg8); clear h8 hg8)
        go_roundw
        case rel => exact ⟨k + 1, by go_num, hlt, HR⟩
        case measure => simp [intOf]; omega
      | false =>
        have HN2 : Hid (RA w w4 u5 ((xs.take (k + 1)).filter fun x => rbit mask x.kd)) := Lib.hid (by rw [HSN.out, if_neg (by simp), List.append_nil]; exact HRW.out)
        clear HSN
        go_wp2_with fail
        go_roundw
        case rel => exact ⟨k + 1, by go_num, hlt, HN2⟩
        case measure => simp [intOf]; omega
    · have hke : k = xs.length := by omega
      subst hke
      have HR : Hid (RA w wr u5 (xs.filter fun x => rbit mask x.kd)) := Lib.hid (by have := HS.out; rw [List.take_length] at this; exact this)
      clear HS HT hlt hk
      go_wp2_with fail
      exact HE.out _ _ HR.out
end Go.Proofs.Ytpgfkggfgkafjaa.Gr
