/-
  Contracts of the document's own answers on arenas: Room, Put. Not a statement of the seat.
-/
import Derived.Test.YtidflgkefdlkfaaAr1
namespace Go.Proofs.Ytidflgkefdlkfaa.F
open Go.ChangeShapes Go.WideShapes Go.ChangeAt Go.RowKit Base
theorem room_ref (n : Int) (w : World) : Calls Try.prog 16 #[.int .i64 n] w fun e w' => e = .returned (.int .i64 (roomOf n : Nat)) ∧ w = w' := by
  rw [roomOf_eq]
  by_cases h1 : n < 0
  · rw [show min (max n 0) 65536 = 0 by omega]
    go_enter Try.func16, Try.ntmps16
    go_wp2
    go_ret
    exact ⟨rfl, rfl⟩
  · have h1' : 0 ≤ n := by omega
    by_cases h2 : 65536 < n
    · rw [show min (max n 0) 65536 = 65536 by omega]
      clear h1
      go_enter Try.func16, Try.ntmps16
      go_wp2
      go_ret
      exact ⟨rfl, rfl⟩
    · rw [show min (max n 0) 65536 = n by omega]
      clear h1
      go_enter Try.func16, Try.ntmps16
      go_wp2
      go_ret
      exact ⟨rfl, rfl⟩
/-- Is a cell right for an arena that has n cells? -/
def fitR (c : Cel) (n : Nat) : Prop := (0 ≤ c.l ∧ c.l ≤ (n : Int)) ∧ (0 ≤ c.r ∧ c.r ≤ (n : Int))
/-- What Put tells where nothing is put: the list as it came. -/
def RefNo (v : Value) (y : Int) (w : World) (e : Ending) (w' : World) : Prop := e = .returned (.tuple #[v, .int .i64 0, .int .i64 y]) ∧ Below w.heap.size w w'
/-- What Put tells where a cell is put: a new list. -/
def RefYes (zs : List Cel) (w : World) (e : Ending) (w' : World) : Prop := ∃ v g, e = .returned (.tuple #[v, .int .i64 (zs.length : Int), .int .i64 0]) ∧ OwnCel 0 w' v zs ∧ v.ownBlock = some g ∧ w.heap.size ≤ g ∧ Below w.heap.size w w'
theorem box_cells {w : World} {g : Nat} {c : Cel} (h : w.heap[g]? = some (.cells #[.int .i64 c.l, .int .i64 c.r, .int .i64 c.k, .int .i64 c.v, .int .i64 c.s, .int .i64 c.h] 28)) :
    w.cell? ⟨g, 0, none⟩ = some (.int .i64 c.l) ∧ w.cell? ⟨g, 1, none⟩ = some (.int .i64 c.r) ∧ w.cell? ⟨g, 2, none⟩ = some (.int .i64 c.k) ∧ w.cell? ⟨g, 3, none⟩ = some (.int .i64 c.v) ∧ w.cell? ⟨g, 4, none⟩ = some (.int .i64 c.s) ∧ w.cell? ⟨g, 5, none⟩ = some (.int .i64 c.h) := by
  simp [World.cell?, h]
theorem ref_step {w Y wb : World} {v1 v2 : Value} {zs : List Cel} (hY : Below w.heap.size w Y) (hq : ∃ g, v1.ownBlock = some g ∧ w.heap.size ≤ g) (ho : OwnCel 0 wb v2 zs) (hl : 0 < zs.length) (hg : Y.grownBy wb v1.ownBlock) (hat : v2.ownBlock = v1.ownBlock ∨ v2.ownBlock = some Y.heap.size) :
    ∃ g cap, v2 = .slice (some ⟨g, 0, none⟩) zs.length cap ∧ Hid (OwnCel 0 wb v2 zs ∧ w.heap.size ≤ g ∧ Below w.heap.size w wb) := by
  obtain ⟨g, cap, rfl⟩ : ∃ g cap, v2 = .slice (some ⟨g, 0, none⟩) zs.length cap := by
    rcases ho.2 with ⟨_, h0⟩ | ⟨g, cap, cur, hv, _⟩
    · omega
    · exact ⟨g, cap, hv⟩
  obtain ⟨g1, h1, h2⟩ := hq
  refine ⟨g, cap, rfl, Lib.hid ⟨ho, ?_, hY.grown hg hY.size (fun k hk => ?_)⟩⟩
  · have hs := hY.size
    rcases hat with h | h
    · rw [h1] at h
      have : g = g1 := Option.some.inj h
      omega
    · have : g = Y.heap.size := Option.some.inj h
      omega
  · rw [h1] at hk
    have : g1 = k := Option.some.inj hk
    omega
set_option maxHeartbeats 2000000 in
theorem put_ref_yes (v : Value) (zs : List Cel) (room : Int) (c : Cel) (w : World) (h : Cels 0 w v zs) (hc : fitR c zs.length) (hf : zs.length < roomOf room) : Calls Try.prog 10 #[v, .int .i64 room, .agg #[.int .i64 c.l, .int .i64 c.r, .int .i64 c.k, .int .i64 c.v, .int .i64 c.s, .int .i64 c.h]] w (RefYes (zs ++ [c]) w) := by
  have HC := Lib.hid h
  obtain ⟨p, cp, rfl, hll, _⟩ := h.open_
  have hrl := roomOf_le room
  have HR := Lib.hid (fun w => room_ref room w)
  unfold fitR at hc
  obtain ⟨⟨h1, h2⟩, h3, h4⟩ := hc
  generalize roomOf room = R at hf hrl HR
  clear h
  go_enter Try.func10, Try.ntmps10
  go_wp2_with fail
  refine (HR.out _).mono ?_
  rintro e w1 ⟨rfl, rfl⟩
  go_wp2_with fail
  go_region_law (first
    | (refine step_append_cels (v := .slice (some ⟨_, 0, none⟩) 0 0) (zs := []) rfl (.tmp 39) (.tmp 40) rfl (Nat.zero_le _) (ownCel_empty (Nat.zero_le _) (by first | exact heap_alloc_at _ _ _ (by simp) | exact heap_alloc_lt _ _ _ _ (heap_alloc_at _ _ _ (by simp)))) rfl (HC.out.below (by go_grown)) rfl (by simp; omega) ?_
       intro v1 wa ho1 hg1 hat1
       rw [List.nil_append] at ho1
       have hbx : wa.heap[w.heap.size]? = some (.cells #[.int .i64 c.l, .int .i64 c.r, .int .i64 c.k, .int .i64 c.v, .int .i64 c.s, .int .i64 c.h] 28) := (hg1.block _ (by first | (simp; done) | (simp; omega)) (by first | (simp [Value.ownBlock]; done) | (simp [Value.ownBlock]; omega))).trans (by first | exact heap_alloc_lt _ _ _ _ (heap_alloc_at _ _ _ rfl) | exact heap_alloc_lt _ _ _ _ (heap_alloc_lt _ _ _ _ (heap_alloc_at _ _ _ rfl)))
       obtain ⟨b0, b1, b2, b3, b4, b5⟩ := box_cells hbx
       have HQ1 : Hid (∃ g, v1.ownBlock = some g ∧ w.heap.size ≤ g) := Lib.hid (by
         rcases hat1 with h | h
         · exact ⟨_, h, by first | (simp; done) | (simp; omega)⟩
         · exact ⟨_, h, by first | (simp; done) | (simp; omega)⟩)
       have HB1 : Hid (Below w.heap.size w wa) := Lib.hid (Below.grown (by go_grown) hg1 (by first | (simp; done) | (simp; omega)) (fun k hk => by simp [Value.ownBlock] at hk; omega))
       have HO1 := Lib.hid ho1
       have HG1 := Lib.hid hg1
       clear ho1 hg1 hat1 hbx)
    | (refine step_append_cels (v := v1) (zs := zs) rfl (.tmp 41) (.tmp 43) rfl (Nat.zero_le _) (by first | exact HO1.out.lay rfl _ | exact HO1.out) rfl (by first | exact cel_lit c _ | exact cel_at c ((HG1.out.block _ (by first | (simp; done) | (simp; omega)) (by first | (simp [Value.ownBlock]; done) | (simp [Value.ownBlock]; omega))).trans (by first | exact heap_alloc_at _ _ _ (by simp) | exact heap_alloc_lt _ _ _ _ (heap_alloc_at _ _ _ (by simp))))) rfl (by simp; omega) ?_
       intro v2 wb ho2 hg2 hat2
       obtain ⟨g2, cap2, rfl, HE⟩ := ref_step (w := w) (by first | exact HB1.out.alloc HB1.out.size _ | exact HB1.out) HQ1.out ho2 (by simp) hg2 hat2
       clear ho2 hg2 hat2))
  all_goals go_wp2
  all_goals exact bodyPost_ret (v := .tuple #[.slice (some ⟨g2, 0, none⟩) (zs ++ [c]).length cap2, .int .i64 ((zs ++ [c]).length : Int), .int .i64 0]) (by simp [results, Try.results10, go_sem]) rfl ⟨_, g2, rfl, HE.out.1, rfl, HE.out.2⟩
set_option maxHeartbeats 2000000 in
theorem put_ref_bad (v : Value) (zs : List Cel) (room : Int) (c : Cel) (w : World) (h : Cels 0 w v zs) (hc : ¬ fitR c zs.length) : Calls Try.prog 10 #[v, .int .i64 room, .agg #[.int .i64 c.l, .int .i64 c.r, .int .i64 c.k, .int .i64 c.v, .int .i64 c.s, .int .i64 c.h]] w (RefNo v 1 w) := by
  obtain ⟨p, cp, rfl, hll, _⟩ := h.open_
  have HB : Hid (Below w.heap.size w (w.alloc (.cells #[.int .i64 c.l, .int .i64 c.r, .int .i64 c.k, .int .i64 c.v, .int .i64 c.s, .int .i64 c.h] 28))) := Lib.hid ((Below.refl _ _).alloc (Nat.le_refl _) _)
  clear h
  unfold fitR at hc
  obtain ⟨cl, cr, ck, cv, cs, ch⟩ := c
  simp only at hc HB ⊢
  by_cases h1 : cl < 0
  · clear hc
    go_enter Try.func10, Try.ntmps10
    go_wp2
    exact bodyPost_ret (v := .tuple #[.slice p zs.length cp, .int .i64 0, .int .i64 1]) (by simp [results, Try.results10, go_sem]) rfl ⟨rfl, HB.out⟩
  by_cases h2 : (zs.length : Int) < cl
  · have h1' : 0 ≤ cl := by omega
    clear hc h1
    go_enter Try.func10, Try.ntmps10
    go_wp2
    exact bodyPost_ret (v := .tuple #[.slice p zs.length cp, .int .i64 0, .int .i64 1]) (by simp [results, Try.results10, go_sem]) rfl ⟨rfl, HB.out⟩
  by_cases h3 : cr < 0
  · have h1' : 0 ≤ cl := by omega
    have h2' : cl ≤ (zs.length : Int) := by omega
    clear hc h1 h2
    go_enter Try.func10, Try.ntmps10
    go_wp2
    exact bodyPost_ret (v := .tuple #[.slice p zs.length cp, .int .i64 0, .int .i64 1]) (by simp [results, Try.results10, go_sem]) rfl ⟨rfl, HB.out⟩
  · have h1' : 0 ≤ cl := by omega
    have h2' : cl ≤ (zs.length : Int) := by omega
    have h3' : 0 ≤ cr := by omega
    have h4 : (zs.length : Int) < cr := by omega
    clear hc h1 h2 h3
    go_enter Try.func10, Try.ntmps10
    go_wp2
    exact bodyPost_ret (v := .tuple #[.slice p zs.length cp, .int .i64 0, .int .i64 1]) (by simp [results, Try.results10, go_sem]) rfl ⟨rfl, HB.out⟩
set_option maxHeartbeats 2000000 in
theorem put_ref_full (v : Value) (zs : List Cel) (room : Int) (c : Cel) (w : World) (h : Cels 0 w v zs) (hc : fitR c zs.length) (hf : roomOf room ≤ zs.length) : Calls Try.prog 10 #[v, .int .i64 room, .agg #[.int .i64 c.l, .int .i64 c.r, .int .i64 c.k, .int .i64 c.v, .int .i64 c.s, .int .i64 c.h]] w (RefNo v 2 w) := by
  obtain ⟨p, cp, rfl, hll, _⟩ := h.open_
  have HB : Hid (Below w.heap.size w (w.alloc (.cells #[.int .i64 c.l, .int .i64 c.r, .int .i64 c.k, .int .i64 c.v, .int .i64 c.s, .int .i64 c.h] 28))) := Lib.hid ((Below.refl _ _).alloc (Nat.le_refl _) _)
  have HR := Lib.hid (fun w => room_ref room w)
  unfold fitR at hc
  obtain ⟨⟨h1, h2⟩, h3, h4⟩ := hc
  generalize roomOf room = R at hf HR
  clear h
  go_enter Try.func10, Try.ntmps10
  go_wp2_with fail
  refine (HR.out _).mono ?_
  rintro e w1 ⟨rfl, rfl⟩
  go_wp2
  exact bodyPost_ret (v := .tuple #[.slice p zs.length cp, .int .i64 0, .int .i64 2]) (by simp [results, Try.results10, go_sem]) rfl ⟨rfl, HB.out⟩
end Go.Proofs.Ytidflgkefdlkfaa.F
