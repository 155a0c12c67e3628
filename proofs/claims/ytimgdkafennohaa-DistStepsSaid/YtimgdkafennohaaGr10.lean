/-
  Contracts of digraphs: New. Not a statement of the seat.
-/
import Derived.Test.YtimgdkafennohaaHead13
import Derived.Deep.RegionHeld3
import Derived.Carry
namespace Go.Proofs.Ytimgdkafennohaa.Gr
open Go.ChangeShapes Go.WideShapes Go.ChangeAt Go.RowKit Base Ro F Dl Ln
def roomL (n : Int) : Nat := (min (max n 0) 4096).toNat
theorem roomL_le (n : Int) : roomL n ≤ 4096 := by unfold roomL; omega
theorem links_info : (Try.prog.info? 45).map (fun i => (i.zero, i.size, i.bytes)) = some (some (.slice none 0 0), 1, 24) := by kernel_rfl
def nilL : Value := .slice none 0 0
theorem madeL (n : Nat) : madeCells #[.slice none 0 0] n = ((List.range n).map (fun _ => nilL)).toArray := by
  unfold madeCells nilL
  apply Array.ext_getElem?
  intro k
  simp
  by_cases h : k < n
  · simp [h, Nat.mod_one]
  · simp [h]
theorem canK_zero (l : List Nat) : canK (fun _ _ => 0) l = [] := by
  unfold canK
  rw [List.flatMap_eq_nil_iff]
  intro n _
  unfold entK
  rw [if_pos (by simp [bitsOf])]
def zeroC : Bool → Nat → Nat → Nat → Int := fun _ _ _ _ => 0
/-- What New leaves. -/
def NewGr (n : Int) (w : World) (e : Ending) (w' : World) : Prop := ∃ b nbs Vs, e = .returned (.pointer (some ⟨b, 0, none⟩)) ∧ GS w' w.heap.size b (roomL n) [] nbs Vs zeroC ∧ (w.heap.size ≤ b ∧ ∀ s, w.heap.size ≤ nbs s) ∧ Below w.heap.size w w'
theorem ownK_nil (B : Nat) (w : World) : OwnK B w nilL [] := ⟨rfl, .inl ⟨rfl, rfl⟩⟩
theorem new_key {w w' : World} {n : Int} {b nb pb : Nat} (hb : w'.heap[b]? = some (.cells #[.slice none 0 0, .int .i64 0, .slice (some ⟨nb, 0, none⟩) (roomL n) (roomL n), .slice (some ⟨pb, 0, none⟩) (roomL n) (roomL n)] 51)) (h1 : w'.heap[nb]? = some (.cells (madeCells #[.slice none 0 0] (roomL n)) 45)) (h2 : w'.heap[pb]? = some (.cells (madeCells #[.slice none 0 0] (roomL n)) 45))
    (hne : nb ≠ pb) (h : w.heap.size ≤ b ∧ w.heap.size ≤ nb ∧ w.heap.size ≤ pb) (hB : Below w.heap.size w w') : NewGr n w (.returned (.pointer (some ⟨b, 0, none⟩))) w' := by
  refine ⟨b, fun s => if s then nb else pb, fun _ _ => nilL, rfl, ⟨hB.size, ⟨.slice none 0 0, hb, .inl ⟨rfl, ⟨rfl, .inl ⟨rfl, rfl⟩⟩⟩⟩, ⟨fun i j _ hj => by simp at hj, by simp, fun x hx => by cases hx⟩, fun s => ?_, fun s a ha => ?_, hne, fun s a s' a' _ _ _ g hg => by simp [nilL, Value.ownBlock] at hg, fun s a c k => by simp [zeroC]⟩, ⟨h.1, fun s => ?_⟩, hB⟩
  · rw [madeL] at h1 h2
    cases s
    · exact h2
    · exact h1
  · show OwnK _ _ nilL (canK (fun _ _ => 0) _)
    rw [canK_zero]
    exact ownK_nil _ _
  · cases s
    · exact h.2.2
    · exact h.2.1
theorem drew_heap (z : World) : z.drew.heap = z.heap := rfl
set_option maxHeartbeats 1000000 in
set_option maxRecDepth 100000 in
theorem grnew (n : Int) (w : World) : Calls Try.prog 12 #[.int .i64 n] w (NewGr n w) := by
  have hr := roomL_le n
  have hmk : ∀ wx, (Instr.makeSlice 49 (.int .i64 ((roomL n : Nat) : Int)) (.int .i64 ((roomL n : Nat) : Int))).run Try.prog wx = .ok (.slice (some ⟨wx.heap.size, 0, none⟩) (roomL n) (roomL n)) (wx.alloc (.cells (madeCells #[.slice none 0 0] (roomL n)) 45)) := fun wx =>
    run_make_row' (P := Try.prog) 49 45 (.slice none 0 0) 24 Try.underlying49 links_info rfl .i64 .i64 (roomL n) (by omega) (by omega) wx
  have HKEY := Lib.hid (fun w' b nb pb => @new_key w w' n b nb pb)
  have hc : (n < 0 ∧ roomL n = 0) ∨ (0 ≤ n ∧ n ≤ 4096 ∧ n = ((roomL n : Nat) : Int)) ∨ (4096 < n ∧ roomL n = 4096) := by unfold roomL; omega
  generalize roomL n = r at *
  generalize NewGr n w = Post at HKEY ⊢
  rcases hc with ⟨h1, rfl⟩ | ⟨h1, h2, rfl⟩ | ⟨h1, rfl⟩
  · have hm1 : max n 0 = 0 := by omega
    have hm2 : min (max n 0) 4096 = 0 := by omega
    have hm3 : min (0 : Int) 4096 = 0 := by decide
    clear hr
    have hmk0 : ∀ wx, (Instr.makeSlice 49 (.int .i64 0) (.int .i64 0)).run Try.prog wx = .ok (.slice (some ⟨wx.heap.size, 0, none⟩) 0 0) (wx.alloc (.cells (madeCells #[.slice none 0 0] 0) 45)) := hmk
    clear hmk
    go_enter Try.func12, Try.ntmps12
    go_wp2_with fail
    go_region_held3 (fun _ => True) (exact True.intro) (fail)
    all_goals go_wp2
    all_goals (
      refine HKEY.out _ _ _ _ (heap_alloc_at _ _ _ (by simp)) ?_ ?_ ?_ ?_ ?_
      · repeat (first | (refine heap_alloc_at _ _ _ ?_; (first | rfl | (simp; done))) | refine heap_alloc_lt _ _ _ _ ?_)
      · repeat (first | (refine heap_alloc_at _ _ _ ?_; (first | rfl | (simp; done))) | refine heap_alloc_lt _ _ _ _ ?_)
      · simp
      · refine ⟨?_, ?_, ?_⟩ <;> first | omega | (simp; done) | (simp; omega)
      · go_grown)
  · have hm1 : max (r : Int) 0 = (r : Int) := by omega
    have hm2 : min (r : Int) 4096 = (r : Int) := by omega
    clear hr
    go_enter Try.func12, Try.ntmps12
    go_wp2_with fail
    go_region_held3 (fun _ => True) (exact True.intro) (fail)
    all_goals go_wp2
    all_goals (
      refine HKEY.out _ _ _ _ (heap_alloc_at _ _ _ (by simp)) ?_ ?_ ?_ ?_ ?_
      · repeat (first | (refine heap_alloc_at _ _ _ ?_; (first | rfl | (simp; done))) | refine heap_alloc_lt _ _ _ _ ?_)
      · repeat (first | (refine heap_alloc_at _ _ _ ?_; (first | rfl | (simp; done))) | refine heap_alloc_lt _ _ _ _ ?_)
      · simp
      · refine ⟨?_, ?_, ?_⟩ <;> first | omega | (simp; done) | (simp; omega)
      · go_grown)
  · have hm1 : max n 0 = n := by omega
    have hm2 : min n 4096 = 4096 := by omega
    clear hr
    have hmk0 : ∀ wx, (Instr.makeSlice 49 (.int .i64 4096) (.int .i64 4096)).run Try.prog wx = .ok (.slice (some ⟨wx.heap.size, 0, none⟩) 4096 4096) (wx.alloc (.cells (madeCells #[.slice none 0 0] 4096) 45)) := hmk
    clear hmk
    go_enter Try.func12, Try.ntmps12
    go_wp2_with fail
    go_region_held3 (fun _ => True) (exact True.intro) (fail)
    all_goals go_wp2
    all_goals (
      refine HKEY.out _ _ _ _ (heap_alloc_at _ _ _ (by simp)) ?_ ?_ ?_ ?_ ?_
      · repeat (first | (refine heap_alloc_at _ _ _ ?_; (first | rfl | (simp; done))) | refine heap_alloc_lt _ _ _ _ ?_)
      · repeat (first | (refine heap_alloc_at _ _ _ ?_; (first | rfl | (simp; done))) | refine heap_alloc_lt _ _ _ _ ?_)
      · simp
      · refine ⟨?_, ?_, ?_⟩ <;> first | omega | (simp; done) | (simp; omega)
      · go_grown)
end Go.Proofs.Ytimgdkafennohaa.Gr
