/-
  What the statements on slots ask first: answers that the document gives. Not a statement of the seat.
-/
import Derived.Test.YtoakpmbiplmpbaaDoorSlR
namespace Go.Proofs.YtoakpmbiplmpbaaDoor.Sl
open Go.ChangeShapes Go.WideShapes Go.ChangeAt Go.RowKit Go.Maps Base Bits Mp F
/-- Slots of the call's own, and what was there in w0 as it was. -/
def SI (w0 w : World) (b mb ib tb tg : Nat) (l : List Int) : Prop := SlAt w b mb ib tb tg l ∧ Below w0.heap.size w0 w ∧ (w0.heap.size ≤ mb ∧ w0.heap.size ≤ ib ∧ w0.heap.size ≤ tg)
section
variable {w0 w w' : World} {b mb ib tb tg : Nat} {l l' : List Int} {v : Value} {e : Ending}
theorem SI.below (h : SI w0 w b mb ib tb tg l) (hb : Below w.heap.size w w') : SI w0 w' b mb ib tb tg l := ⟨h.1.below hb, h.2.1.trans (hb.mono h.2.1.size), h.2.2⟩
theorem SI.ch (h : SI w0 w b mb ib tb tg l) (hp : ChP b mb ib tb tg l' v w e w') : e = .returned v ∧ Hid (SI w0 w' b mb ib tb tg l') := by
  obtain ⟨h1, h2, h3, h4, h5⟩ := h
  obtain ⟨k1, k2, k3⟩ := hp
  refine ⟨k1, Lib.hid ⟨k2, ?_, h3, h4, h5⟩⟩
  have := (Fr.of_below (F := SF mb ib tg) h2).trans k3 (fun _ _ k => k)
  refine this.below (fun g k => ?_) (Nat.le_refl _)
  rcases k with rfl | rfl | rfl <;> assumption
theorem SI.val (h : SI w0 w b mb ib tb tg l) (hp : ValP v w e w') : e = .returned v ∧ Hid (SI w0 w' b mb ib tb tg l) := ⟨hp.1, Lib.hid (h.below hp.2)⟩
theorem SI.new {n : Int} (hp : NewSl n w e w') : ∃ b mb ib tb tg, e = .returned (.pointer (some ⟨b, 0, none⟩)) ∧ Hid (SI w w' b mb ib tb tg (List.replicate (roomL n) 0)) := by
  obtain ⟨b, mb, ib, tb, tg, h1, h2, h3, h4⟩ := hp
  exact ⟨b, mb, ib, tb, tg, h1, Lib.hid ⟨h2, h4, h3.2.1, h3.2.2.1, h3.2.2.2.2⟩⟩
theorem SI.tab (h : SI w0 w b mb ib tb tg l) (hT : TabW w0) : TabW w := hT.below h.2.1
end
theorem take_is {w : World} {b mb ib tb tg : Nat} {l l' : List Int} {x s y : Int} (h : SlAt w b mb ib tb tg l) (hr : takeL l x = (l', s, y)) : Calls Tryd.prog 32 #[.pointer (some ⟨b, 0, none⟩), .int .i64 x] w (ChP b mb ib tb tg l' (.tuple #[.int .i64 s, .int .i64 y]) w) := by
  have := take_any h x
  rw [hr] at this
  exact this
theorem free_is {w : World} {b mb ib tb tg : Nat} {l l' : List Int} {x y : Int} (h : SlAt w b mb ib tb tg l) (hr : freeL l x = (l', y)) : Calls Tryd.prog 30 #[.pointer (some ⟨b, 0, none⟩), .int .i64 x] w (ChP b mb ib tb tg l' (.int .i64 y) w) := by
  have := free_any h x
  rw [hr] at this
  exact this
theorem slot_is {w : World} {b mb ib tb tg : Nat} {l : List Int} {x : Int} {r : Option Int} (h : SlAt w b mb ib tb tg l) (hr : slotF l x = r) : Calls Tryd.prog 33 #[.pointer (some ⟨b, 0, none⟩), .int .i64 x] w (ValP (.tuple #[.int .i64 (r.getD 0), .bool r.isSome]) w) := by
  have := slot_any h x
  rwa [hr] at this
theorem id_is {w : World} {b mb ib tb tg : Nat} {l : List Int} {x y : Int} {r : Bool} (h : SlAt w b mb ib tb tg l) (hr : idI l x = y) (hr2 : decide (y ≠ 0) = r) : Calls Tryd.prog 34 #[.pointer (some ⟨b, 0, none⟩), .int .i64 x] w (ValP (.tuple #[.int .i64 y, .bool r]) w) := by
  have := id_any h x
  rw [hr, hr2] at this
  exact this
theorem len_is {w : World} {b mb ib tb tg : Nat} {l : List Int} {n : Int} (h : SlAt w b mb ib tb tg l) (hr : ((cntL l : Nat) : Int) = n) : Calls Tryd.prog 36 #[.pointer (some ⟨b, 0, none⟩)] w (ValP (.int .i64 n) w) := by
  have := len_sl h
  rwa [hr] at this
theorem room_is {w : World} {b mb ib tb tg : Nat} {l : List Int} {n : Int} (h : SlAt w b mb ib tb tg l) (hr : (l.length : Int) - (cntL l : Int) = n) : Calls Tryd.prog 37 #[.pointer (some ⟨b, 0, none⟩)] w (ValP (.int .i64 n) w) := by
  have := room_sl h
  rwa [hr] at this
/-- Three pairs that are typed out. -/
theorem pai3_at {X : World} {g : Nat} (a b c : Pai) (h : X.heap[g]? = some (.cells #[.int .i64 a.k, .int .i64 a.v, .int .i64 b.k, .int .i64 b.v, .int .i64 c.k, .int .i64 c.v] 62)) : Pais 0 X (.slice (some ⟨g, 0, none⟩) 3 3) [a, b, c] := by
  refine .inr ⟨g, 0, 3, rfl, Nat.zero_le _, heap_lt h, by simp, fun k hk => ?_⟩
  have hk3 : k < 3 := by simpa using hk
  match k, hk3 with
  | 0, _ => simp [World.cell?, h]
  | 1, _ => simp [World.cell?, h]
  | 2, _ => simp [World.cell?, h]
def TruP (w : World) (e : Ending) (w' : World) : Prop := e = .returned (.bool true) ∧ Below w.heap.size w w'
set_option maxHeartbeats 4000000 in
set_option maxRecDepth 100000 in
theorem lives_sl (w0 : World) (hT : TabW w0) : Calls Tryd.prog 27 #[] w0 (TruP w0) := by
  have HT := Lib.hid hT
  clear hT
  go_enter Tryd.func27, Tryd.ntmps27
  go_wp2_with fail
  refine (slnew 3 _).mono ?_
  intro e w1 hp
  obtain ⟨b, mb, ib, tb, tg, rfl, I1⟩ := SI.new hp
  clear hp
  have hl : List.replicate (roomL 3) (0 : Int) = [0, 0, 0] := by kernel_rfl
  rw [hl] at I1
  clear hl
  go_wp2_with fail
  refine (take_is (x := 7) (l' := [7, 0, 0]) (s := 0) (y := 0) I1.out.1 (by kernel_rfl)).mono ?_
  intro e w2 hp
  obtain ⟨rfl, I2⟩ := I1.out.ch hp
  clear hp I1
  go_wp2_with fail
  refine (take_is (x := 8) (l' := [7, 8, 0]) (s := 1) (y := 0) I2.out.1 (by kernel_rfl)).mono ?_
  intro e w3 hp
  obtain ⟨rfl, I3⟩ := I2.out.ch hp
  clear hp I2
  go_wp2_with fail
  refine (take_is (x := 9) (l' := [7, 8, 9]) (s := 2) (y := 0) I3.out.1 (by kernel_rfl)).mono ?_
  intro e w4 hp
  obtain ⟨rfl, I4⟩ := I3.out.ch hp
  clear hp I3
  go_wp2_with fail
  refine (take_is (x := 10) (l' := [7, 8, 9]) (s := 0) (y := 2) I4.out.1 (by kernel_rfl)).mono ?_
  intro e w5 hp
  obtain ⟨rfl, I5⟩ := I4.out.ch hp
  clear hp I4
  go_wp2_with fail
  refine (take_is (x := 9) (l' := [7, 8, 9]) (s := 0) (y := 4) I5.out.1 (by kernel_rfl)).mono ?_
  intro e w6 hp
  obtain ⟨rfl, I6⟩ := I5.out.ch hp
  clear hp I5
  go_wp2_with fail
  refine (take_is (x := 0) (l' := [7, 8, 9]) (s := 0) (y := 1) I6.out.1 (by kernel_rfl)).mono ?_
  intro e w7 hp
  obtain ⟨rfl, I7⟩ := I6.out.ch hp
  clear hp I6
  go_wp2_with fail
  refine (free_is (x := 8) (l' := [7, 0, 9]) (y := 0) I7.out.1 (by kernel_rfl)).mono ?_
  intro e w8 hp
  obtain ⟨rfl, I8⟩ := I7.out.ch hp
  clear hp I7
  go_wp2_with fail
  refine (free_is (x := 8) (l' := [7, 0, 9]) (y := 3) I8.out.1 (by kernel_rfl)).mono ?_
  intro e w9 hp
  obtain ⟨rfl, I9⟩ := I8.out.ch hp
  clear hp I8
  go_wp2_with fail
  refine (take_is (x := 5) (l' := [7, 5, 9]) (s := 1) (y := 0) I9.out.1 (by kernel_rfl)).mono ?_
  intro e w10 hp
  obtain ⟨rfl, I10⟩ := I9.out.ch hp
  clear hp I9
  go_wp2_with fail
  refine (slot_is (x := 5) (r := some 1) I10.out.1 (by kernel_rfl)).mono ?_
  intro e w11 hp
  obtain ⟨rfl, I11⟩ := I10.out.val hp
  clear hp I10
  go_wp2_with fail
  refine (id_is (x := 2) (y := 9) (r := true) I11.out.1 (by kernel_rfl) (by decide)).mono ?_
  intro e w12 hp
  obtain ⟨rfl, I12⟩ := I11.out.val hp
  clear hp I11
  go_wp2_with fail
  refine (id_is (x := 3) (y := 0) (r := false) I12.out.1 (by kernel_rfl) (by decide)).mono ?_
  intro e w13 hp
  obtain ⟨rfl, I13⟩ := I12.out.val hp
  clear hp I12
  go_wp2_with fail
  refine (slot_is (x := 8) (r := none) I13.out.1 (by kernel_rfl)).mono ?_
  intro e w14 hp
  obtain ⟨rfl, I14⟩ := I13.out.val hp
  clear hp I13
  go_wp2_with fail
  refine (take_nil 1 (by decide)).mono ?_
  intro e w15 hp
  obtain ⟨rfl, I15⟩ := I14.out.val hp
  clear hp I14
  go_wp2_with fail
  refine (len_is (n := 3) I15.out.1 (by kernel_rfl)).mono ?_
  intro e w16 hp
  obtain ⟨rfl, I16⟩ := I15.out.val hp
  clear hp I15
  go_wp2_with fail
  refine (room_is (n := 0) I16.out.1 (by kernel_rfl)).mono ?_
  intro e w17 hp
  obtain ⟨rfl, I17⟩ := I16.out.val hp
  clear hp I16
  go_wp2_with fail
  refine (list_sl I17.out.1 (I17.out.tab HT.out)).mono ?_
  rintro e w18 ⟨lv, rfl, ho, hb⟩
  have HO := Lib.hid (F.OwnPai.list ho (by decide))
  have I18 := Lib.hid (I17.out.below hb)
  clear ho hb I17
  have HS := Lib.hid (fun (u : Value) (X : World) (ha : Pais w17.heap.size X lv (pairsL [7, 5, 9])) (hu : Pais 0 X u [⟨0, 7⟩, ⟨1, 5⟩, ⟨2, 9⟩]) => same_ref lv u _ _ X ha hu (by decide))
  have hsm : sameL (pairsL [7, 5, 9]) [⟨0, 7⟩, ⟨1, 5⟩, ⟨2, 9⟩] = true := by kernel_rfl
  rw [hsm] at HS
  clear hsm
  go_wp2_with fail
  refine (HS.out _ _ (HO.out.below (by go_grown)) (pai3_at ⟨0, 7⟩ ⟨1, 5⟩ ⟨2, 9⟩ (heap_alloc_at _ _ _ (by simp)))).mono ?_
  rintro e w19 ⟨rfl, n19, rfl⟩
  have hb : Below w18.heap.size w18 ((w18.alloc (.cells #[.int .i64 0, .int .i64 7, .int .i64 1, .int .i64 5, .int .i64 2, .int .i64 9] 62)).drewN n19) := below_drewN ((Below.refl _ _).alloc (Nat.le_refl _) _) _
  have I19 := Lib.hid (I18.out.below hb)
  clear hb HO HS I18
  go_wp2_with fail
  refine (free_nil 1).mono ?_
  intro e w20 hp
  obtain ⟨rfl, I20⟩ := I19.out.val hp
  clear hp I19
  go_wp2_with fail
  refine (len_sl_nil).mono ?_
  intro e w21 hp
  obtain ⟨rfl, I21⟩ := I20.out.val hp
  clear hp I20
  go_wp2
  go_ret
  exact ⟨rfl, I21.out.2.1⟩
end Go.Proofs.YtoakpmbiplmpbaaDoor.Sl
