/-
  Contracts of txn's Writes, Weight, keysOf's loop, and of the document's. Not a statement of the seat.
-/
import Derived.Test.YtaogofjnpnheeaaGreatDoorHead
import Derived.Test.YtaogofjnpnheeaaGreatDoorLstAp
import Derived.Test.YtaogofjnpnheeaaGreatDoorOpSame
namespace Go.Proofs.YtaogofjnpnheeaaGreatDoor.Tx
open Go.ChangeShapes Go.WideShapes Go.ChangeAt Go.RowKit Base F Lst
/-- A world behind another one: all that lay, lies. -/
def Aft (w W : World) : Prop := Below w.heap.size w W
theorem Aft.refl (w : World) : Aft w w := Below.refl _ _
theorem Aft.lay {w W : World} (h : Aft w W) (o : Obj) : Aft w (W.alloc o) := Below.alloc h h.size o
theorem Aft.trans {w W W' : World} (h : Aft w W) (h' : Aft W W') : Aft w W' := Below.trans h (h'.mono h.size)
theorem Aft.drew {w W : World} (h : Aft w W) (q : Nat) : Aft w (W.drewN q) := below_drewN h q
theorem Aft.one {w : World} (o : Obj) : Aft w (w.alloc o) := (Aft.refl w).lay o
theorem Aft.cell {w W : World} (h : Aft w W) {g o : Nat} (hg : g < w.heap.size) {v : Value} (hc : w.cell? ⟨g, o, none⟩ = some v) : W.cell? ⟨g, o, none⟩ = some v := (Below.cell h (p := ⟨g, o, none⟩) hg).trans hc
/-- What a call that tells a number leaves. -/
def IntNew (n : Int) (w : World) (e : Ending) (w' : World) : Prop := e = .returned (.int .i64 n) ∧ Aft w w'
def BoolNew (r : Bool) (w : World) (e : Ending) (w' : World) : Prop := e = .returned (.bool r) ∧ Aft w w'
set_option maxRecDepth 100000 in
set_option maxHeartbeats 1000000 in
theorem writes_any {base : Nat} {s : Value} {l : List Opr} (id key : Int) (d : Bool) (w : World) (h : Oprs base w s l) (hl : l.length ≤ 1000000) : Calls Tryz.prog 9 #[.agg #[.int .i64 id, .bool d, s], .int .i64 key] w (IntNew (wrN l key : Nat) w) := by
  obtain ⟨p, c, rfl, _, hc⟩ := h.open_
  have HC := Lib.hid hc
  have HE : Hid (∀ n w', n = wrN l key → Aft w w' → IntNew (wrN l key : Nat) w (.returned (.int .i64 (n : Nat))) w') := Lib.hid fun n w' h1 h2 => ⟨by rw [h1], h2⟩
  clear h hc
  generalize IntNew (wrN l key : Nat) w = Post at HE ⊢
  go_enter Tryz.func9, Tryz.ntmps9
  go_wp2
  go_loopw [5, 11] (fun s5 s11 wr => ∃ k n : Nat, s11 = .int .i64 k ∧ s5 = .int .i64 n ∧ k ≤ l.length ∧ n ≤ k ∧ Hid (n = wrN (l.take k) key) ∧ Hid (Aft w wr)) (fun _ s11 _ => l.length - (intOf s11).toNat)
  case atStart => exact ⟨0, 0, rfl, rfl, Nat.zero_le _, Nat.le_refl _, Lib.hid rfl, Lib.hid (Aft.one _)⟩
  case round =>
    obtain ⟨k, n, rfl, rfl, hk, hn, HN, HW⟩ := hrel
    by_cases hlt : k < l.length
    · obtain ⟨g', o', rfl, _, hg', c0, c1, c2, c3⟩ := HC.out k hlt
      have d0 := HW.out.cell hg' c0
      have d1 := HW.out.cell hg' c1
      have d2 := HW.out.cell hg' c2
      have d3 := HW.out.cell hg' c3
      have HS : Hid (wrN (l.take (k + 1)) key = wrN (l.take k) key + (if (l.getD k Opr.zero).rd = false ∧ (l.getD k Opr.zero).k = key then 1 else 0)) := Lib.hid (by rw [take_snoc l Opr.zero k hlt, wrN_snoc])
      have HW2 : Hid (∀ o, Aft w (wr.alloc o)) := Lib.hid fun o => HW.out.lay o
      clear c0 c1 c2 c3
      generalize l.getD k Opr.zero = x at d0 d1 d2 d3 HS
      by_cases hx : x.rd = false ∧ x.k = key
      · have HN2 : Hid (n + 1 = wrN (l.take (k + 1)) key) := Lib.hid (by rw [HS.out, if_pos hx, HN.out])
        obtain ⟨hx1, hx2⟩ := hx
        rw [hx1] at d0
        rw [hx2] at d1
        clear HS HN hx1 hx2
        go_wp2
        go_roundw
        case rel => exact ⟨k + 1, n + 1, by go_num, by go_num, by omega, by omega, HN2, Lib.hid (HW2.out _)⟩
        case measure => simp [intOf]; omega
      · have HN2 : Hid (n = wrN (l.take (k + 1)) key) := Lib.hid (by rw [HS.out, if_neg hx, HN.out]; rfl)
        cases hr : x.rd with
        | true =>
          rw [hr] at d0
          clear HS HN hx hr
          go_wp2
          go_roundw
          case rel => exact ⟨k + 1, n, by go_num, rfl, by omega, by omega, HN2, Lib.hid (HW2.out _)⟩
          case measure => simp [intOf]; omega
        | false =>
          rw [hr] at d0
          have hd : (x.k == key) = false := by rw [beq_eq_false_iff_ne]; exact fun e => hx ⟨hr, e⟩
          clear HS HN hx hr
          go_wp2
          go_roundw
          case rel => exact ⟨k + 1, n, by go_num, rfl, by omega, by omega, HN2, Lib.hid (HW2.out _)⟩
          case measure => simp [intOf]; omega
    · have HR : Hid (n = wrN l key) := Lib.hid (by rw [HN.out, List.take_of_length_le (by omega)])
      clear HN
      go_wp2
      exact HE.out _ _ HR.out HW.out
set_option maxRecDepth 100000 in
theorem weight_any {base : Nat} {s : Value} {l : List Opr} (id : Int) (d : Bool) (w : World) (h : Oprs base w s l) (hl : l.length ≤ 1000000) : Calls Tryz.prog 15 #[.agg #[.int .i64 id, .bool d, s]] w (IntNew ((l.length : Int) + 1) w) := by
  obtain ⟨p, c, rfl, _, _⟩ := h.open_
  have HE : Hid (∀ w', Aft w w' → IntNew ((l.length : Int) + 1) w (.returned (.int .i64 ((l.length : Int) + 1))) w') := Lib.hid fun w' h2 => ⟨rfl, h2⟩
  generalize hP : IntNew ((l.length : Int) + 1) w = Post at HE ⊢
  clear h hP
  go_enter Tryz.func15, Tryz.ntmps15
  go_wp2
  exact HE.out _ (Aft.one _)
end Go.Proofs.YtaogofjnpnheeaaGreatDoor.Tx
