/-
  Contracts of slots: what they are, New. Not a statement of the seat.
-/
import Derived.Test.YtoakpmbiplmpbaaDoorSlM
import Derived.Test.YtoakpmbiplmpbaaDoorMpZ
import Derived.Test.YtoakpmbiplmpbaaDoorFPai
import Derived.Deep.RegionHeld3
import Derived.Carry
namespace Go.Proofs.YtoakpmbiplmpbaaDoor.Sl
open Go.ChangeShapes Go.WideShapes Go.ChangeAt Go.RowKit Base Bits Mp
def slotsB (mb ib tb n : Nat) : Obj := .cells #[.map (some mb), .slice (some ⟨ib, 0, none⟩) n n, .pointer (some ⟨tb, 0, none⟩)] 91
def i32s (l : List Int) : Array Value := (l.map (Value.int .i32)).toArray
def k32 (x : Int) : Value := .int .i32 x
def SlAt (w : World) (b mb ib tb tg : Nat) (l : List Int) : Prop :=
  w.heap[b]? = some (slotsB mb ib tb l.length) ∧ MZ Tryd.prog 21 21 .i32 k32 w mb (cntL l) (slotF l) ∧ w.heap[ib]? = some (.cells (i32s l) 21) ∧ RowAt w tb tg l.length (takenV l) ∧ GoodI l
theorem SlAt.lt {w : World} {b mb ib tb tg : Nat} {l : List Int} (h : SlAt w b mb ib tb tg l) : b < w.heap.size ∧ mb < w.heap.size ∧ ib < w.heap.size ∧ tb < w.heap.size ∧ tg < w.heap.size :=
  ⟨heap_lt h.1, h.2.1.lt, heap_lt h.2.2.1, heap_lt h.2.2.2.1.1, heap_lt h.2.2.2.1.2.1⟩
theorem SlAt.below {w w1 : World} {b mb ib tb tg : Nat} {l : List Int} (h : SlAt w b mb ib tb tg l) (hb : Below w.heap.size w w1) : SlAt w1 b mb ib tb tg l :=
  ⟨(hb.block _ h.lt.1).trans h.1, h.2.1.below hb, (hb.block _ h.lt.2.2.1).trans h.2.2.1, h.2.2.2.1.below hb, h.2.2.2.2⟩
theorem made32 (n : Nat) : madeCells #[.int .i32 0] n = i32s (List.replicate n 0) := by
  unfold madeCells i32s
  apply Array.ext_getElem?
  intro k
  simp
  by_cases h : k < n
  · simp [h, Nat.mod_one]
  · simp [h]
def roomL (n : Int) : Nat := (min (max n 0) 4096).toNat
theorem roomL_le (n : Int) : roomL n ≤ 4096 := by unfold roomL; omega
theorem i32_info : (Tryd.prog.info? 21).map (fun i => (i.zero, i.size, i.bytes)) = some (some (.int .i32 0), 1, 4) := by kernel_rfl
/-- What New leaves. -/
def NewSl (n : Int) (w : World) (e : Ending) (w' : World) : Prop := ∃ b mb ib tb tg, e = .returned (.pointer (some ⟨b, 0, none⟩)) ∧ SlAt w' b mb ib tb tg (List.replicate (roomL n) 0) ∧ (w.heap.size ≤ b ∧ w.heap.size ≤ mb ∧ w.heap.size ≤ ib ∧ w.heap.size ≤ tb ∧ w.heap.size ≤ tg) ∧ Below w.heap.size w w'
theorem new_key {w w' : World} {n : Int} {b mb ib tb tg : Nat} (hb : w'.heap[b]? = some (slotsB mb ib tb (roomL n))) (hm : w'.heap[mb]? = some (.map #[] 0)) (hi : w'.heap[ib]? = some (.cells (madeCells #[.int .i32 0] (roomL n)) 21)) (ht : RowAt w' tb tg (Bits.rowLen (roomL n : Nat)) 0)
    (h : w.heap.size ≤ b ∧ w.heap.size ≤ mb ∧ w.heap.size ≤ ib ∧ w.heap.size ≤ tb ∧ w.heap.size ≤ tg) (hB : Below w.heap.size w w') : NewSl n w (.returned (.pointer (some ⟨b, 0, none⟩))) w' := by
  have hr := roomL_le n
  refine ⟨b, mb, ib, tb, tg, rfl, ⟨by rw [List.length_replicate]; exact hb, ?_, by rw [hi, made32], ?_, good_rep hr⟩, h, hB⟩
  · rw [filter_rep]
    exact (MZ.made hm).ext fun x => (slotF_rep _ hr x).symm
  · rw [List.length_replicate, takenV_rep]
    have : Bits.rowLen (roomL n : Nat) = roomL n := by unfold Bits.rowLen; omega
    rwa [this] at ht
theorem blw_thru {B : Nat} {w Y x : World} (h : Below B w Y) (hs : B ≤ Y.heap.size) (hb : Below Y.heap.size Y x) : Below B w x := h.trans (hb.mono hs)
theorem drew_heap (z : World) : z.drew.heap = z.heap := rfl
theorem blk_thru {Y x : World} {g : Nat} {o : Obj} (hb : Below Y.heap.size Y x) (h : Y.heap[g]? = some o) : x.heap[g]? = some o := (hb.block g (heap_lt h)).trans h
set_option maxHeartbeats 1000000 in
set_option maxRecDepth 100000 in
theorem slnew (n : Int) (w : World) : Calls Tryd.prog 26 #[.int .i64 n] w (NewSl n w) := by
  have hr := roomL_le n
  have hmk : ∀ wx, (Instr.makeSlice 89 (.int .i64 ((roomL n : Nat) : Int)) (.int .i64 ((roomL n : Nat) : Int))).run Tryd.prog wx = .ok (.slice (some ⟨wx.heap.size, 0, none⟩) (roomL n) (roomL n)) (wx.alloc (.cells (madeCells #[.int .i32 0] (roomL n)) 21)) := fun wx =>
    run_make_row' (P := Tryd.prog) 89 21 (.int .i32 0) 4 Tryd.underlying89 i32_info rfl .i64 .i64 (roomL n) (by omega) (by omega) wx
  have hmm := @run_makeMap Tryd.prog
  have HN := Lib.hid (fun wx : World => new_any ((roomL n : Nat) : Int) wx)
  have HK := @new_key w
  have HKEY := Lib.hid (fun w' b mb ib tb tg => @new_key w w' n b mb ib tb tg)
  have hc : (n < 0 ∧ roomL n = 0) ∨ (0 ≤ n ∧ n ≤ 4096 ∧ n = ((roomL n : Nat) : Int)) ∨ (4096 < n ∧ roomL n = 4096) := by unfold roomL; omega
  clear HK
  generalize roomL n = r at *
  generalize NewSl n w = Post at HKEY ⊢
  rcases hc with ⟨h1, rfl⟩ | ⟨h1, h2, rfl⟩ | ⟨h1, rfl⟩
  · have hm1 : max n 0 = 0 := by omega
    have hm2 : min (max n 0) 4096 = 0 := by omega
    have hm3 : min (0 : Int) 4096 = 0 := by decide
    clear hr
    have hmk0 : ∀ wx, (Instr.makeSlice 89 (.int .i64 0) (.int .i64 0)).run Tryd.prog wx = .ok (.slice (some ⟨wx.heap.size, 0, none⟩) 0 0) (wx.alloc (.cells (madeCells #[.int .i32 0] 0) 21)) := hmk
    have HN0 : Hid (∀ wx : World, Calls Tryd.prog 10 #[.int .i64 0] wx fun e w' => e = .returned (.pointer (some ⟨wx.heap.size + 1, 0, none⟩)) ∧ RowAt w' (wx.heap.size + 1) wx.heap.size (Bits.rowLen ((0 : Nat) : Int)) 0 ∧ Below wx.heap.size wx w') := HN
    clear hmk HN
    go_enter Tryd.func26, Tryd.ntmps26
    go_wp2
    go_region_held3 (fun _ => True) (exact True.intro)
      ((first
        | (go_at_call 10; ((with_reducible refine (HN0.out _).mono ?_); rintro e x ⟨rfl, hr1, hb1⟩))))
    all_goals go_wp2
    all_goals (
      have hsz := hb1.size
      have hbw : Below w.heap.size w x := by
        refine blw_thru ?_ ?_ hb1
        · go_grown
        · simp [drew_heap]; try omega
      simp [drew_heap] at hr1 hsz
      refine HKEY.out _ _ _ _ _ _ (heap_alloc_at _ _ _ (by simp)) ?_ ?_ (hr1.below (by go_grown)) ?_ ?_
      · repeat (first | exact heap_alloc_at _ _ _ (by simp) | refine heap_alloc_lt _ _ _ _ ?_ | refine blk_thru hb1 ?_)
      · repeat (first | exact heap_alloc_at _ _ _ (by simp) | refine heap_alloc_lt _ _ _ _ ?_ | refine blk_thru hb1 ?_)
      · simp; omega
      · first | exact hbw | exact hbw.trans (by go_grown))
  · have hm1 : max (r : Int) 0 = (r : Int) := by omega
    have hm2 : min (r : Int) 4096 = (r : Int) := by omega
    clear hr
    go_enter Tryd.func26, Tryd.ntmps26
    go_wp2
    go_region_held3 (fun _ => True) (exact True.intro)
      ((first
        | (go_at_call 10; ((with_reducible refine (HN.out _).mono ?_); rintro e x ⟨rfl, hr1, hb1⟩))))
    all_goals go_wp2
    all_goals (
      have hsz := hb1.size
      have hbw : Below w.heap.size w x := by
        refine blw_thru ?_ ?_ hb1
        · go_grown
        · simp [drew_heap]; try omega
      simp [drew_heap] at hr1 hsz
      refine HKEY.out _ _ _ _ _ _ (heap_alloc_at _ _ _ (by simp)) ?_ ?_ (hr1.below (by go_grown)) ?_ ?_
      · repeat (first | exact heap_alloc_at _ _ _ (by simp) | refine heap_alloc_lt _ _ _ _ ?_ | refine blk_thru hb1 ?_)
      · repeat (first | exact heap_alloc_at _ _ _ (by simp) | refine heap_alloc_lt _ _ _ _ ?_ | refine blk_thru hb1 ?_)
      · simp; omega
      · first | exact hbw | exact hbw.trans (by go_grown))
  · have hm1 : max n 0 = n := by omega
    have hm2 : min n 4096 = 4096 := by omega
    clear hr
    have hmk0 : ∀ wx, (Instr.makeSlice 89 (.int .i64 4096) (.int .i64 4096)).run Tryd.prog wx = .ok (.slice (some ⟨wx.heap.size, 0, none⟩) 4096 4096) (wx.alloc (.cells (madeCells #[.int .i32 0] 4096) 21)) := hmk
    have HN0 : Hid (∀ wx : World, Calls Tryd.prog 10 #[.int .i64 4096] wx fun e w' => e = .returned (.pointer (some ⟨wx.heap.size + 1, 0, none⟩)) ∧ RowAt w' (wx.heap.size + 1) wx.heap.size (Bits.rowLen ((4096 : Nat) : Int)) 0 ∧ Below wx.heap.size wx w') := HN
    clear hmk HN
    go_enter Tryd.func26, Tryd.ntmps26
    go_wp2
    go_region_held3 (fun _ => True) (exact True.intro)
      ((first
        | (go_at_call 10; ((with_reducible refine (HN0.out _).mono ?_); rintro e x ⟨rfl, hr1, hb1⟩))))
    all_goals go_wp2
    all_goals (
      have hsz := hb1.size
      have hbw : Below w.heap.size w x := by
        refine blw_thru ?_ ?_ hb1
        · go_grown
        · simp [drew_heap]; try omega
      simp [drew_heap] at hr1 hsz
      refine HKEY.out _ _ _ _ _ _ (heap_alloc_at _ _ _ (by simp)) ?_ ?_ (hr1.below (by go_grown)) ?_ ?_
      · repeat (first | exact heap_alloc_at _ _ _ (by simp) | refine heap_alloc_lt _ _ _ _ ?_ | refine blk_thru hb1 ?_)
      · repeat (first | exact heap_alloc_at _ _ _ (by simp) | refine heap_alloc_lt _ _ _ _ ?_ | refine blk_thru hb1 ?_)
      · simp; omega
      · first | exact hbw | exact hbw.trans (by go_grown))
end Go.Proofs.YtoakpmbiplmpbaaDoor.Sl
