/-
  Contracts of maps in an arena: New, cell, pairOf. Not a statement of the seat.
-/
import Derived.Test.YtpmimngngehmlaaAr4
import Derived.Test.YtpmimngngehmlaaFPai
import Derived.Test.YtpmimngngehmlaaCelBox
namespace Go.Proofs.Ytpmimngngehmlaa.F
open Go.ChangeShapes Go.WideShapes Go.ChangeAt Go.RowKit Base
/-- What a call that tells a map, and makes memory, leaves. -/
def MapIs (pv : Value) (root : Int) (w : World) (e : Ending) (w' : World) : Prop := e = .returned (.agg #[pv, .int .i64 root]) ∧ Below w.heap.size w w'
set_option maxRecDepth 100000 in
theorem pmnew_some (b : Nat) (w : World) : Calls Try.prog 14 #[.pointer (some ⟨b, 0, none⟩)] w (MapIs (.pointer (some ⟨b, 0, none⟩)) 0 w) := by
  go_enter Try.func14, Try.ntmps14
  go_wp2
  exact bodyPost_ret (v := .agg #[.pointer (some ⟨b, 0, none⟩), .int .i64 0]) (by simp [results, Try.results14, go_sem]) rfl ⟨rfl, by go_grown⟩
set_option maxRecDepth 100000 in
theorem pmnew_nil (w : World) : Calls Try.prog 14 #[.pointer none] w (MapIs (.pointer none) 0 w) := by
  go_enter Try.func14, Try.ntmps14
  go_wp2
  exact bodyPost_ret (v := .agg #[.pointer none, .int .i64 0]) (by simp [results, Try.results14, go_sem]) rfl ⟨rfl, by go_grown⟩
theorem pmnew {pv : Value} {o : Option Nat} {room : Nat} {zs : List Cel} {w : World} (h : ArV w pv o room zs) : Calls Try.prog 14 #[pv] w (MapIs pv 0 w) := by
  rcases h with ⟨rfl, _⟩ | ⟨b, rfl, _⟩
  · exact pmnew_nil w
  · exact pmnew_some b w
/-- What a call that tells a cell, and makes memory, leaves. -/
def CelIs (x : Cel) (w : World) (e : Ending) (w' : World) : Prop := e = .returned (.agg #[.int .i64 x.l, .int .i64 x.r, .int .i64 x.k, .int .i64 x.v, .int .i64 x.s, .int .i64 x.h]) ∧ Below w.heap.size w w'
set_option maxRecDepth 100000 in
set_option maxHeartbeats 4000000 in
theorem pmcell {pv : Value} {o : Option Nat} {room : Nat} {zs : List Cel} {w : World} (root i : Int) (h : ArV w pv o room zs) : Calls Try.prog 69 #[.agg #[pv, .int .i64 root], .int .i64 i] w (CelIs (celAt zs i) w) := by
  have HG : Hid (∀ wx, Below w.heap.size w wx → Calls Try.prog 107 #[pv, .int .i64 i] wx (GetPost (celAt zs i) (decide (1 ≤ i ∧ i ≤ (zs.length : Int))) wx)) := Lib.hid fun wx hb => arget_v i wx (h.below hb)
  generalize decide (1 ≤ i ∧ i ≤ (zs.length : Int)) = q at HG
  generalize celAt zs i = x at HG ⊢
  unfold GetPost Cel.agg at HG
  have hpv : ∃ a, pv = .pointer a := by
    rcases h with ⟨rfl, _⟩ | ⟨b, rfl, _⟩
    · exact ⟨_, rfl⟩
    · exact ⟨_, rfl⟩
  obtain ⟨a, rfl⟩ := hpv
  clear h
  go_enter Try.func69, Try.ntmps69
  go_wp2_with fail
  refine (HG.out _ (by go_grown)).mono ?_
  rintro e w1 ⟨rfl, hb⟩
  have HB : Hid (Below w.heap.size w w1) := Lib.hid (Below.trans (by go_grown) (hb.mono (by simp; omega)))
  have hz : w1.heap[w.heap.size + 1]? = some (.cells #[.int .i64 0, .int .i64 0, .int .i64 0, .int .i64 0, .int .i64 0, .int .i64 0] 110) := (hb.block _ (by simp)).trans (heap_alloc_at _ _ _ (by simp))
  have HZ : Hid ((w1.alloc (boxC x)).heap[w.heap.size + 1]? = some (boxC Cel.zero)) := Lib.hid (heap_alloc_lt w1 _ _ _ hz)
  have HB2 := Lib.hid (HB.out.alloc HB.out.size (boxC x))
  clear hb hz
  go_wp2_with (refine wpList_store_cel rfl (.tmp 4) (.tmp 14) rfl (w.heap.size + 1) x _ rfl rfl HZ.out ?_; intro w2 hst)
  exact bodyPost_ret (results_cel Try.results69 _ _ (w.heap.size + 1) x rfl hst.2.2.2.2.1) rfl ⟨rfl, hst.below HB2.out (by omega)⟩
set_option maxRecDepth 100000 in
theorem pmpair (x : Cel) (w : World) : Calls Try.prog 70 #[.agg #[.int .i64 x.l, .int .i64 x.r, .int .i64 x.k, .int .i64 x.v, .int .i64 x.s, .int .i64 x.h]] w fun e w' => e = .returned (.agg #[.int .i64 x.k, .int .i64 x.v]) ∧ Below w.heap.size w w' := by
  go_enter Try.func70, Try.ntmps70
  go_wp2
  exact bodyPost_ret (v := .agg #[.int .i64 x.k, .int .i64 x.v]) (by simp [results, Try.results70, go_sem]) rfl ⟨rfl, by go_grown⟩
end Go.Proofs.Ytpmimngngehmlaa.F
