/-
  SeqPlays: contracts of the document's own answers on sequences (Set, Insert's refusal, Index), and lists in boxes as they want them. Not a statement of the seat.
-/
import Derived.Test.YtbgepeokadmemaaHead6
import Derived.Test.YtbgepeokadmemaaSsEnt
import Derived.Test.YtbgepeokadmemaaPsList
namespace Go.Proofs.Ytbgepeokadmemaa.Q
open Go.ChangeShapes Go.WideShapes Go.ChangeAt Go.RowKit Base F Lst
theorem LI.sl {bs : List (Nat × Obj)} {v : Value} {xs : List Int} {w : World} (h : LI bs v xs) (hw : ∀ p ∈ bs, w.heap[p.1]? = some p.2) (hl : xs.length ≤ 9223372036854775807) : Or.SL w v xs := by
  obtain ⟨p, c, hv, _, hc⟩ := h.form
  exact ⟨⟨h.ints hw hl, p, c, hv, hc⟩, h.cap0⟩
set_option maxHeartbeats 1000000 in
theorem rset_any {v : Value} {xs : List Int} (i : Nat) (x : Int) (w : World) (h : Or.SL w v xs) (hi : i < xs.length) (hl : xs.length ≤ 100000) : Calls Try.prog 25 #[v, .int .i64 i, .int .i64 x] w (Or.OwnNew (xs.set i x) w) := by
  have HX := Lib.hid h
  have HE : Hid (∀ g n c w', Or.Way w w' (.slice (some ⟨g, 0, none⟩) n c) xs → Or.OwnNew (xs.set i x) w (.returned (.slice (some ⟨g, 0, none⟩) n c)) (w'.setCell ⟨g, i, none⟩ (.int .i64 x))) := Lib.hid fun g n c w' h1 => ⟨_, rfl, Or.own_set h1.1 hi x, h1.2.setCell (own_base h1.1 g rfl) _⟩
  have HF : Hid (∀ v1 w', Or.Way w w' v1 xs → ∃ g n c, v1 = .slice (some ⟨g, 0, none⟩) n c ∧ g < w'.heap.size ∧ n = xs.length ∧ w'.cell? ⟨g, i, none⟩ = some (.int .i64 (xs.getD i 0)) ∧ w'.frozen? ⟨g, i, none⟩ = false) := Lib.hid fun v1 w' h1 => by
    rcases h1.1.form with ⟨h4, _⟩ | ⟨g, cap, rfl, _, hg, h5⟩
    · rw [h4] at hi; exact absurd hi (by simp)
    · exact ⟨g, _, cap, rfl, hg, rfl, (Or.own_cell h1.1 hi).1, (Or.own_cell h1.1 hi).2⟩
  clear h
  generalize Or.OwnNew (xs.set i x) w = Post at HE ⊢
  go_enter Try.func25, Try.ntmps25
  go_wp2_with (at_builtin; refine append_ints rfl (.tmp 8) (.tmp 9) rfl (Or.Way.empty (w := w)).2.size (Or.Way.empty (w := w)).1 rfl (HX.out.below (Or.Way.empty (w := w)).2).1.1 HX.out.2 rfl (by simp; omega) ?_; intro v1 w1 h1 h2 _; have H1 : Hid (Or.Way w w1 v1 xs) := Lib.hid (Or.Way.onto Or.Way.empty h1 h2); clear h1 h2; obtain ⟨g, n, c, rfl, hg, hn, c0, c1⟩ := HF.out _ _ H1.out; have hin : i < n := (by omega); clear hn)
  exact HE.out _ _ _ _ H1.out
theorem rinsert_no {v : Value} {xs : List Int} (i x : Int) (w : World) (h : Or.SL w v xs) (hi : i < 0 ∨ (xs.length : Int) < i) : Calls Try.prog 23 #[v, .int .i64 i, .int .i64 x] w fun e w' => e = .returned (.tuple #[v, .bool false]) ∧ w = w' := by
  obtain ⟨⟨_, p, c, rfl, hc⟩, _⟩ := h
  have HE : Hid ((fun e w' => e = Ending.returned (.tuple #[.slice p xs.length c, .bool false]) ∧ w = w') (.returned (.tuple #[.slice p xs.length c, .bool false])) w) := Lib.hid ⟨rfl, rfl⟩
  generalize (fun e w' => e = Ending.returned (.tuple #[.slice p xs.length c, .bool false]) ∧ w = w') = Post at HE ⊢
  rcases hi with hi | hi
  · go_enter Try.func23, Try.ntmps23
    go_wp2
    exact HE.out
  · have h0 : ¬ i < 0 := by omega
    go_enter Try.func23, Try.ntmps23
    go_wp2
    exact HE.out
theorem idx_same (xs : List Int) (v : Int) : idxS v xs 0 = Om.idx xs v := by
  by_cases hm : v ∈ xs
  · have hi := List.idxOf_lt_length_of_mem hm
    rw [Om.idx_mem hm, idx_at v xs 0 (xs.idxOf v) hi (by rw [List.getD_eq_getElem?_getD, List.getElem?_eq_getElem hi]; simp) (fun j hj h => ?_)]
    · simp
    · have hjl : j < xs.length := by omega
      rw [List.getD_eq_getElem?_getD, List.getElem?_eq_getElem hjl] at h
      have h : xs[j] = v := by simpa using h
      exact absurd h (by have := List.not_of_lt_findIdx (p := (· == v)) (xs := xs) (i := j) (by simpa [List.idxOf] using hj); simpa using this)
  · have hn : ∀ j, j < xs.length → xs.getD j 0 ≠ v := fun j hj h => hm (by
      rw [List.getD_eq_getElem?_getD, List.getElem?_eq_getElem hj] at h
      have h : xs[j] = v := by simpa using h
      rw [← h]; exact List.getElem_mem hj)
    rw [idx_no v xs 0 hn]
    exact (Om.idx_miss hn).symm
end Go.Proofs.Ytbgepeokadmemaa.Q
