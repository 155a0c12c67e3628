/-
  Contracts of slots: what is read. Not a statement of the seat.
-/
import Derived.Test.YtoakpmbiplmpbaaDoorSl1
import Derived.DeepKeys4
namespace Go.Proofs.YtoakpmbiplmpbaaDoor.Sl
open Go.ChangeShapes Go.WideShapes Go.ChangeAt Go.RowKit Go.Maps Base Bits Mp F
theorem laidOutS : laidOutB Tryd.prog = true := by kernel_rfl
theorem keyed32 : Keyed Tryd.prog 21 := Maps.int_keyed Tryd.underlying21
theorem zero32 (w : World) : (zeroValue 21).run Tryd.prog w = .ok (.int .i32 0) w := by kernel_rfl
theorem key32 {x : Int} (h : -2147483648 ≤ x ∧ x ≤ 2147483647) : keyOf Tryd.prog 21 (k32 x) = some (.int .i32 x) := key_of Tryd.underlying21 (WalkArith.wf_i32 h)
theorem k32_inj {x y : Int} (h : k32 x = k32 y) : x = y := by unfold k32 at h; injection h
variable {w : World} {b mb ib tb tg : Nat} {l : List Int}
theorem SlAt.cells (h : SlAt w b mb ib tb tg l) : w.cell? ⟨b, 0, none⟩ = some (.map (some mb)) ∧ w.cell? ⟨b, 1, none⟩ = some (.slice (some ⟨ib, 0, none⟩) l.length l.length) ∧ w.cell? ⟨b, 2, none⟩ = some (.pointer (some ⟨tb, 0, none⟩)) := by
  simp [World.cell?, h.1, slotsB]
theorem SlAt.id (h : SlAt w b mb ib tb tg l) {k : Nat} (hk : k < l.length) : w.cell? ⟨ib, k, none⟩ = some (.int .i32 (l.getD k 0)) ∧ w.frozen? ⟨ib, k, none⟩ = false := by
  simp [World.cell?, World.frozen?, h.2.2.1, i32s, List.getD_eq_getElem?_getD, hk]
def heldV (mb ib tb n : Nat) : Value := .agg #[.map (some mb), .slice (some ⟨ib, 0, none⟩) n n, .pointer (some ⟨tb, 0, none⟩)]
def heldN : Value := .agg #[.map none, .slice none 0 0, .pointer none]
def HeldP (v : Value) (w : World) (e : Ending) (w' : World) : Prop := e = .returned v ∧ Below w.heap.size w w'
set_option maxHeartbeats 1000000 in
set_option maxRecDepth 100000 in
theorem held_any (h : SlAt w b mb ib tb tg l) : Calls Tryd.prog 65 #[.pointer (some ⟨b, 0, none⟩)] w (HeldP (.agg #[.map (some mb), .slice (some ⟨ib, 0, none⟩) l.length l.length, .pointer (some ⟨tb, 0, none⟩)]) w) := by
  obtain ⟨h0, h1, h2⟩ := h.cells
  generalize l.length = n at *
  have hlt := h.lt.1
  clear h
  go_enter Tryd.func65, Tryd.ntmps65
  go_wp2
  exact bodyPost_ret (results_cell_row Tryd.results65 _ _ w.heap.size _ _ _ _ rfl (heap_alloc_at _ _ _ rfl) Tryd.underlying91 rfl (by kernel_rfl)) rfl ⟨rfl, by go_grown⟩
set_option maxHeartbeats 1000000 in
set_option maxRecDepth 100000 in
theorem held_nil : Calls Tryd.prog 65 #[.pointer none] w (HeldP (.agg #[.map none, .slice none 0 0, .pointer none]) w) := by
  go_enter Tryd.func65, Tryd.ntmps65
  go_wp2
  exact bodyPost_ret (results_cell_row Tryd.results65 _ _ w.heap.size _ _ _ _ rfl (heap_alloc_at _ _ _ rfl) Tryd.underlying91 rfl (by kernel_rfl)) rfl ⟨rfl, by go_grown⟩
theorem isId_any (x : Int) : Calls Tryd.prog 63 #[.int .i64 x] w fun e w' => e = .returned (.bool (decide (1 ≤ x ∧ x ≤ 1048575))) ∧ w = w' := by
  by_cases h1 : 1 ≤ x
  · by_cases h2 : x ≤ 1048575
    · rw [decide_eq_true ⟨h1, h2⟩]
      go_enter Tryd.func63, Tryd.ntmps63
      go_wp2
      go_ret
      exact ⟨rfl, rfl⟩
    · rw [decide_eq_false (by omega)]
      go_enter Tryd.func63, Tryd.ntmps63
      go_wp2
      go_ret
      exact ⟨rfl, rfl⟩
  · rw [decide_eq_false (by omega)]
    go_enter Tryd.func63, Tryd.ntmps63
    go_wp2
    go_ret
    exact ⟨rfl, rfl⟩
theorem fldS0 (m : Option Nat) (p : Option Addr) (n c : Nat) (a : Option Addr) (w : World) : (Instr.field 91 (.agg #[.map m, .slice p n c, .pointer a]) 0).run Tryd.prog w = .ok (.map m) w := by kernel_rfl
theorem fldS1 (m : Option Nat) (p : Option Addr) (n c : Nat) (a : Option Addr) (w : World) : (Instr.field 91 (.agg #[.map m, .slice p n c, .pointer a]) 1).run Tryd.prog w = .ok (.slice p n c) w := by kernel_rfl
/-- What a call that tells a value, and may make memory, leaves. -/
def ValP (v : Value) (w : World) (e : Ending) (w' : World) : Prop := e = .returned v ∧ Below w.heap.size w w'
theorem i32_in {x : Int} (h : -2147483648 ≤ x ∧ x ≤ 2147483647) : IntKind.i32.wrap x = x := by rw [IntKind.wrap_i32]; omega
theorem i64_in {x : Int} (h : -2147483648 ≤ x ∧ x ≤ 2147483647) : IntKind.i64.wrap x = x := by rw [IntKind.wrap_i64]; omega
set_option maxHeartbeats 1000000 in
set_option maxRecDepth 100000 in
theorem slot_any (h : SlAt w b mb ib tb tg l) (x : Int) : Calls Tryd.prog 33 #[.pointer (some ⟨b, 0, none⟩), .int .i64 x] w (ValP (.tuple #[.int .i64 ((slotF l x).getD 0), .bool (slotF l x).isSome]) w) := by
  have HID := Lib.hid (isId_any (w := w) x)
  by_cases hx : 1 ≤ x ∧ x ≤ 1048575
  · rw [decide_eq_true hx] at HID
    have HH := Lib.hid (held_any h)
    have HM := Lib.hid h.2.1
    have hk := key32 (x := x) (by omega)
    have HK := Lib.hid hk
    have hw2 : IntKind.i64.wrap ((slotF l x).getD 0) = (slotF l x).getD 0 := i64_in (by
      rcases hs : slotF l x with _ | v
      · simp
      · obtain ⟨k, h1, _, _, rfl⟩ := (slotF_iff h.2.2.2.2).1 hs
        have := h.2.2.2.2.1
        simp; omega)
    have hw : IntKind.i32.wrap x = x := i32_in (by omega)
    generalize hr : slotF l x = r at hw2 ⊢
    generalize hl : l.length = n at HH
    have hf := fldS0 (some mb) (some ⟨ib, 0, none⟩) n n (some ⟨tb, 0, none⟩)
    clear hk h hl
    obtain ⟨hx1, hx2⟩ := hx
    go_enter Tryd.func33, Tryd.ntmps33
    go_wp2_with fail
    refine (HID.out).mono ?_
    rintro e w1 ⟨rfl, rfl⟩
    go_wp2_with fail
    refine (HH.out).mono ?_
    rintro e w1 ⟨rfl, hb⟩
    have HM1 := Lib.hid (HM.out.below hb)
    have HB := Lib.hid hb
    clear hb HM
    go_wp2_with (at_lookup; refine wp_lookZ keyed32 Tryd.underlying88 Tryd.underlying21 zero32 rfl (.tmp 14) (.tmp 16) rfl HM1.out rfl x rfl HK.out ?_; rw [hr])
    go_ret2
    exact ⟨rfl, HB.out⟩
  · rw [decide_eq_false hx] at HID
    rw [slotF_out h.2.2.2.2 hx]
    clear h hx
    go_enter Tryd.func33, Tryd.ntmps33
    go_wp2_with fail
    refine (HID.out).mono ?_
    rintro e w1 ⟨rfl, rfl⟩
    go_wp2
    go_ret2
    exact ⟨rfl, Below.refl _ _⟩
theorem nil_look (x : Int) (hk : keyOf Tryd.prog 21 (k32 x) = some (.int .i32 x)) (w : World) : (Instr.lookup 88 (.map none) (.int .i32 x) true).run Tryd.prog w = .ok (.tuple #[.int .i32 0, .bool false]) w := Maps.look_nil (w := w) true keyed32 Tryd.underlying88 (zero32 w) hk
set_option maxHeartbeats 1000000 in
set_option maxRecDepth 100000 in
theorem slot_nil (x : Int) : Calls Tryd.prog 33 #[.pointer none, .int .i64 x] w (ValP (.tuple #[.int .i64 0, .bool false]) w) := by
  have HID := Lib.hid (isId_any (w := w) x)
  by_cases hx : 1 ≤ x ∧ x ≤ 1048575
  · rw [decide_eq_true hx] at HID
    have HH := Lib.hid (held_nil (w := w))
    have hlk := nil_look x (key32 (x := x) (by omega))
    have hw : IntKind.i32.wrap x = x := i32_in (by omega)
    have hf := fldS0 none none 0 0 none
    obtain ⟨hx1, hx2⟩ := hx
    go_enter Tryd.func33, Tryd.ntmps33
    go_wp2_with fail
    refine (HID.out).mono ?_
    rintro e w1 ⟨rfl, rfl⟩
    go_wp2_with fail
    refine (HH.out).mono ?_
    rintro e w1 ⟨rfl, hb⟩
    have HB := Lib.hid hb
    clear hb
    go_wp2
    go_ret2
    exact ⟨rfl, HB.out⟩
  · rw [decide_eq_false hx] at HID
    clear hx
    go_enter Tryd.func33, Tryd.ntmps33
    go_wp2_with fail
    refine (HID.out).mono ?_
    rintro e w1 ⟨rfl, rfl⟩
    go_wp2
    go_ret2
    exact ⟨rfl, Below.refl _ _⟩
/-- Whose a slot is. -/
def idI (l : List Int) (i : Int) : Int := if 0 ≤ i ∧ i < l.length then l.getD i.toNat 0 else 0
theorem has_idI (l : List Int) (i : Int) : hasI l.length (takenV l) i = decide (idI l i ≠ 0) := by
  unfold hasI idI
  rw [takenV_bit]
  by_cases h : 0 ≤ i ∧ i < l.length
  · rw [if_pos h, decide_eq_true h, Bool.true_and]
  · rw [if_neg h, decide_eq_false h]; rfl
theorem below_box {w w1 : World} (h : Below w.heap.size w w1) (o : Obj) : Below w.heap.size w (w1.alloc o) := h.alloc h.size o
set_option maxHeartbeats 1000000 in
set_option maxRecDepth 100000 in
theorem id_any (h : SlAt w b mb ib tb tg l) (i : Int) : Calls Tryd.prog 34 #[.pointer (some ⟨b, 0, none⟩), .int .i64 i] w (ValP (.tuple #[.int .i64 (idI l i), .bool (decide (idI l i ≠ 0))]) w) := by
  have HH := Lib.hid (held_any h)
  have HS := Lib.hid h
  have HHA : Hid (∀ X, Below w.heap.size w X → Calls Tryd.prog 25 #[.pointer (some ⟨tb, 0, none⟩), .int .i64 i] X fun e w' => e = .returned (.bool (decide (idI l i ≠ 0))) ∧ X = w') := Lib.hid fun X hX => by
    have := has_any tb tg l.length (takenV l) i X (h.2.2.2.1.below hX)
    rwa [has_idI] at this
  have hlt := h.lt.2.2.1
  have hlen : l.length ≤ 4096 := h.2.2.2.2.1
  by_cases h0 : idI l i = 0
  · have e1 : decide (idI l i ≠ 0) = false := by simp [h0]
    rw [e1] at HHA ⊢
    rw [h0]
    generalize l.length = n at *
    clear h
    go_enter Tryd.func34, Tryd.ntmps34
    go_wp2_with fail
    refine (HH.out).mono ?_
    rintro e w1 ⟨rfl, hb⟩
    have HB := Lib.hid hb
    clear hb HH
    go_wp2_with fail
    refine (HHA.out _ (below_box HB.out _)).mono ?_
    rintro e w2 ⟨rfl, rfl⟩
    go_wp2
    go_ret2
    exact ⟨rfl, below_box HB.out _⟩
  · have e1 : decide (idI l i ≠ 0) = true := by simp [h0]
    rw [e1] at HHA ⊢
    obtain ⟨hi0, hi1⟩ : 0 ≤ i ∧ i < l.length := by
      unfold idI at h0
      by_cases hh : 0 ≤ i ∧ i < l.length
      · exact hh
      · rw [if_neg hh] at h0; exact absurd rfl h0
    obtain ⟨k, rfl⟩ := Int.eq_ofNat_of_zero_le hi0
    have hk : k < l.length := by omega
    have e2 : idI l (k : Int) = l.getD k 0 := by unfold idI; rw [if_pos ⟨hi0, hi1⟩, Int.toNat_natCast]
    rw [e2]
    have hbd := h.2.2.2.2.2.1 k hk
    have hw2 : IntKind.i64.wrap (l.getD k 0) = l.getD k 0 := i64_in (by omega)
    have HC := Lib.hid (h.id hk).1
    clear h0 e1 e2 hi0 hi1 h hbd HS
    generalize l.getD k 0 = x at *
    generalize l.length = n at *
    go_enter Tryd.func34, Tryd.ntmps34
    go_wp2_with fail
    refine (HH.out).mono ?_
    rintro e w1 ⟨rfl, hb⟩
    have HB := Lib.hid hb
    clear hb HH
    go_wp2_with fail
    refine (HHA.out _ (below_box HB.out _)).mono ?_
    rintro e w2 ⟨rfl, rfl⟩
    have hc : ∀ o, (w1.alloc o).cell? ⟨ib, k, none⟩ = some (.int .i32 x) := fun o => ((below_box HB.out o).cell (p := ⟨ib, k, none⟩) hlt).trans HC.out
    go_wp2
    go_ret2
    exact ⟨rfl, below_box HB.out _⟩
set_option maxHeartbeats 1000000 in
set_option maxRecDepth 100000 in
theorem len_sl (h : SlAt w b mb ib tb tg l) : Calls Tryd.prog 36 #[.pointer (some ⟨b, 0, none⟩)] w (ValP (.int .i64 (cntL l : Nat)) w) := by
  have HH := Lib.hid (held_any h)
  have HM := Lib.hid h.2.1
  have hf := fldS0 (some mb) (some ⟨ib, 0, none⟩) l.length l.length (some ⟨tb, 0, none⟩)
  generalize l.length = n at HH hf
  generalize hc : cntL l = c at HM ⊢
  clear h hc
  go_enter Tryd.func36, Tryd.ntmps36
  go_wp2_with fail
  refine (HH.out).mono ?_
  rintro e w1 ⟨rfl, hb⟩
  have HM1 := Lib.hid (HM.out.below hb)
  have HB := Lib.hid hb
  clear hb HM
  have hln := fun ty => HM1.out.len Tryd.underlying88 ty
  go_wp2
  go_ret
  exact ⟨rfl, HB.out⟩
theorem nil_len (ty : TypeId) (w : World) : (Builtin.len_ #[88] ty #[.map none]).run Tryd.prog w = .ok (.int .i64 0) w := Maps.len_nil Tryd.underlying88 ty
set_option maxHeartbeats 1000000 in
set_option maxRecDepth 100000 in
theorem len_sl_nil : Calls Tryd.prog 36 #[.pointer none] w (ValP (.int .i64 0) w) := by
  have HH := Lib.hid (held_nil (w := w))
  have hf := fldS0 none none 0 0 none
  go_enter Tryd.func36, Tryd.ntmps36
  go_wp2_with fail
  refine (HH.out).mono ?_
  rintro e w1 ⟨rfl, hb⟩
  have HB := Lib.hid hb
  clear hb
  have hln := fun ty => nil_len ty w1
  go_wp2
  go_ret
  exact ⟨rfl, HB.out⟩
set_option maxHeartbeats 1000000 in
set_option maxRecDepth 100000 in
theorem room_sl (h : SlAt w b mb ib tb tg l) : Calls Tryd.prog 37 #[.pointer (some ⟨b, 0, none⟩)] w (ValP (.int .i64 ((l.length : Int) - (cntL l : Int))) w) := by
  have HH := Lib.hid (held_any h)
  have hle := cntL_le l
  have hl4 : l.length ≤ 4096 := h.2.2.2.2.1
  have HL : Hid (∀ X, Below w.heap.size w X → Calls Tryd.prog 36 #[.pointer (some ⟨b, 0, none⟩)] X (ValP (.int .i64 (cntL l : Nat)) X)) := Lib.hid fun X hX => len_sl (h.below hX)
  have hf := fldS1 (some mb) (some ⟨ib, 0, none⟩) l.length l.length (some ⟨tb, 0, none⟩)
  have hw : IntKind.i64.wrap ((l.length : Int) - (cntL l : Int)) = (l.length : Int) - (cntL l : Int) := i64_in (by omega)
  clear h
  generalize l.length = n at *
  generalize cntL l = c at *
  go_enter Tryd.func37, Tryd.ntmps37
  go_wp2_with fail
  refine (HH.out).mono ?_
  rintro e w1 ⟨rfl, hb⟩
  have HB := Lib.hid hb
  clear hb
  go_wp2_with fail
  refine (HL.out _ HB.out).mono ?_
  rintro e w2 ⟨rfl, hb⟩
  have HB2 := Lib.hid (HB.out.trans (hb.mono HB.out.size))
  clear hb
  go_wp2
  go_ret
  exact ⟨rfl, HB2.out⟩
end Go.Proofs.YtoakpmbiplmpbaaDoor.Sl
