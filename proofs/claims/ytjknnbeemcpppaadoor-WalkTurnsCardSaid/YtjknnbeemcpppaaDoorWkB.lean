/-
  Walks: what a builder's WriteString leaves of edges that lie in memory. Not a statement of the seat.
-/
import Derived.Test.YtjknnbeemcpppaaDoorSb
namespace Go.Proofs.YtjknnbeemcpppaaDoor.Wk
open Go.ChangeShapes Go.WideShapes Go.ChangeAt Go.RowKit Base Sb
/-- Blocks of edges stay as they are. -/
def KeepE (w w' : World) : Prop := ∀ (g : Nat) (c : Array Value), w.heap[g]? = some (.cells c 32 (0, 0)) → w'.heap[g]? = some (.cells c 32 (0, 0))
theorem neU8 : 5 ≠ 32 := by decide
theorem neSbE : 45 ≠ 32 := by decide
theorem keep_set {w : World} {b : Nat} {c' : Array Value} (hb : w.heap[b]? = some (.cells c' 45 (0, 0))) (i : Nat) (v : Value) : KeepE w (w.setCell ⟨b, i, none⟩ v) := fun g c hg => by
  refine (Below.heap_setCell _ _ _ _ (fun e => ?_)).trans hg
  have e2 : g = b := by first | exact e | exact e.symm
  rw [e2, hb] at hg
  injection hg with hg
  injection hg with _ h3 _
  exact neSbE h3
set_option maxHeartbeats 1000000 in
theorem check_keep (B b : Nat) (bs : List Value) (w : World) (h : Lib.IsBuilder 45 5 B b bs w) :
    Calls Tryd.prog 42 #[.pointer (some ⟨b, 0, none⟩)] w fun e w' => e = .returned (.tuple #[]) ∧ (Lib.BuilderAt 45 5 B b (.pointer (some ⟨b, 0, none⟩)) bs w' ∧ Below B w w' ∧ KeepE w w') := by
  obtain ⟨j, hj, hjs⟩ := Option.map_eq_some_iff.1 sbInfo
  rcases h with h | h
  · have c0 := h.cell0
    have sh := h.shape
    have f0 := h.frozen0
    have HE : Hid (Lib.BuilderAt 45 5 B b (.pointer (some ⟨b, 0, none⟩)) bs (w.setCell ⟨b, 0, none⟩ (.pointer (some ⟨b, 0, none⟩))) ∧ Below B w (w.setCell ⟨b, 0, none⟩ (.pointer (some ⟨b, 0, none⟩))) ∧ KeepE w (w.setCell ⟨b, 0, none⟩ (.pointer (some ⟨b, 0, none⟩)))) := Lib.hid ⟨h.used _, (Below.refl B w).setCell (p := ⟨b, 0, none⟩) h.1 _, by obtain ⟨_, _, hbk, _⟩ := h; exact keep_set hbk _ _⟩
    have r1 : (convert 42 61 (.pointer (some ⟨b, 0, none⟩))).run Tryd.prog w = .ok (.pointer (some ⟨b, 0, none⟩)) w := Lib.run_to_unsafe w ⟨b, 0, none⟩ Tryd.underlying42 Tryd.underlying61 hj (by rw [hjs]; decide) sh (Nat.zero_lt_succ 1)
    have r2 : (convert 61 42 (.pointer (some ⟨b, 0, none⟩))).run Tryd.prog w = .ok (.pointer (some ⟨b, 0, none⟩)) w := Lib.run_from_unsafe w ⟨b, 0, none⟩ Tryd.underlying61 Tryd.underlying42 hj sh sbLies
    clear h
    go_enter Tryd.func42, Tryd.ntmps42
    go_wp2_with fail
    rw [run_callFunc_extern Tryd.func48 (by kernel_rfl) (by kernel_rfl) (by kernel_rfl) (e := Extern.AbiNoEscape.same) (by kernel_rfl)]
    rw [Lib.run_noEscape]
    simp only [Result.andThen]
    rw [Oper.upon_value]
    go_wp2_with fail
    go_end0
    exact ⟨rfl, HE.out⟩
  · have c0 := h.cell0
    have r1 : ∀ wx, (binOp .neq 42 (.pointer (some ⟨b, 0, none⟩)) (.pointer (some ⟨b, 0, none⟩))).run Tryd.prog wx = .ok (.bool false) wx := fun wx => Lib.run_neq_ptr_same wx _ Tryd.underlying42 hj
    have HE : Hid (Lib.BuilderAt 45 5 B b (.pointer (some ⟨b, 0, none⟩)) bs w ∧ Below B w w ∧ KeepE w w) := Lib.hid ⟨h, Below.refl _ _, fun _ _ h => h⟩
    clear h
    go_enter Tryd.func42, Tryd.ntmps42
    go_wp2_with fail
    go_end0
    exact ⟨rfl, HE.out⟩
set_option maxHeartbeats 2000000 in
theorem string_keep (B b : Nat) (l : List UInt8) (s : ByteArray) (w : World) (h : SbAt B b l w) (hlen : l.length + s.size ≤ 140737488355328) (hBw : B ≤ w.heap.size) :
    Calls Tryd.prog 30 #[.pointer (some ⟨b, 0, none⟩), .string s] w fun e w' => SbPost B b (l ++ s.data.toList) (.tuple #[.int .i64 s.size, .nilIface]) w e w' ∧ KeepE w w' := by
  obtain ⟨i0, hi, hz0, hz1, hz2⟩ := info_parts byteInfo
  have hbl : (Lib.byteCells l).length ≤ l.length := Nat.le_of_eq (Lib.byteCells_length l)
  have HP : Hid (∀ w', Lib.BuilderAt 45 5 B b (.pointer (some ⟨b, 0, none⟩)) (Lib.byteCells l ++ Lib.strCells s) w' → Below B w w' → SbPost B b (l ++ s.data.toList) (.tuple #[.int .i64 s.size, .nilIface]) w (.returned (.tuple #[.int .i64 s.size, .nilIface])) w') := Lib.hid fun w' h1 h2 => ⟨rfl, .inr (by rw [byteCells_append, ← strCells_bytes]; exact h1), h2⟩
  have HC := Lib.hid (check_keep B b _ w h)
  clear h
  generalize SbPost B b (l ++ s.data.toList) (.tuple #[.int .i64 s.size, .nilIface]) w = Post at HP ⊢
  generalize Lib.byteCells l = bs at HP HC hbl
  go_enter Tryd.func30, Tryd.ntmps30
  go_wp2_with fail
  refine (HC.out).mono ?_
  rintro e w1 ⟨rfl, h1, hb1, hke1⟩
  have HKE1 := Lib.hid hke1
  clear hke1
  obtain ⟨hB, v, hbk, hown, hne⟩ := h1
  have c0 : w1.cell? ⟨b, 0, none⟩ = some (.pointer (some ⟨b, 0, none⟩)) := by rw [Lib.cell_of_heap hbk]; rfl
  have c1 : w1.cell? ⟨b, 1, none⟩ = some v := by rw [Lib.cell_of_heap hbk]; rfl
  go_wp2_with (at_builtin; refine Lib.wpList_append_own_string _ rfl _ _ 43 9 rfl B 5 i0 Tryd.underlying43 Tryd.underlying9 hi hz0 hz1 hz2 _ _ _ rfl hown s rfl ?c3 ?c4 ?c5 ?_)
  case c3 => unfold maxLen; omega
  case c4 => omega
  case c5 => have := hb1.size; omega
  intro v' w2 hown' hgrow _
  have hlt : b < w1.heap.size := heap_lt hbk
  have hb2 : w2.heap[b]? = some (.cells #[.pointer (some ⟨b, 0, none⟩), v] 45 (0, 0)) := by
    rw [hgrow.block b hlt (fun e => hne e.symm)]
    exact hbk
  have HKE : Hid (∀ z, KeepE w (w2.setCell ⟨b, 1, none⟩ z)) := Lib.hid fun z => fun g c hg => keep_set hb2 1 z g c ((hgrow.block g (heap_lt (HKE1.out g c hg)) (fun e => by
    rcases hown.2 with ⟨hv, _⟩ | ⟨g', cap, cur, hv, _, hg', _⟩
    · rw [hv] at e; cases e
    · rw [hv] at e
      have e2 : g = g' := by simp [Value.ownBlock] at e; exact e
      have := HKE1.out g c hg
      rw [e2, hg'] at this
      injection this with this
      injection this with _ h3 _
      exact absurd h3 neU8)).trans (HKE1.out g c hg))
  have d0 : w2.cell? ⟨b, 0, none⟩ = some (.pointer (some ⟨b, 0, none⟩)) := by rw [Lib.cell_of_heap hb2]; rfl
  have d1 : w2.cell? ⟨b, 1, none⟩ = some v := by rw [Lib.cell_of_heap hb2]; rfl
  have f1 : w2.frozen? ⟨b, 1, none⟩ = false := Lib.frozen_of_heap hb2 1
  have HE := Lib.hid (HP.out _ (Lib.BuilderAt.put (T := 45) (e := 5) hB hb2 (bs' := bs ++ Lib.strCells s) (by simpa [Lib.strCells_length] using hown') neSb) ((hb1.grown hgrow (by have := hb1.size; omega) (fun k hk => (hown.lt k hk).1)).setCell (p := ⟨b, 1, none⟩) hB _))
  obtain ⟨ao, n', cap, rfl⟩ : ∃ ao n' cap, v' = .slice ao n' cap := by
    rcases hown'.2 with ⟨hv, _⟩ | ⟨g, cap, cur, hv, _⟩
    · exact ⟨_, _, _, hv⟩
    · exact ⟨_, _, _, hv⟩
  clear hown' hgrow hown hb2 hbk hb1
  go_wp2
  go_ret2
  exact ⟨HE.out, HKE.out _⟩
end Go.Proofs.YtjknnbeemcpppaaDoor.Wk
