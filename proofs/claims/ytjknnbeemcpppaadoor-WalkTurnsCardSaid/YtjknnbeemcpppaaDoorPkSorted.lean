/-
  A contract for pack.Sort: whatever edges: a new slice of the edges in order, each once; what was there is as it was. Not a statement of the seat.
-/
import Derived.Test.YtjknnbeemcpppaaDoorPkCompact
namespace Go.Proofs.YtjknnbeemcpppaaDoor.Pk
open Go.ChangeShapes Go.WideShapes Go.ChangeAt Go.RowKit Base Go.Shelf Go.Lib Go.Sort
/-- The edges of d in order, each once. -/
def sortedE (d : Array E) : List E := compactUpTo (d.toList.mergeSort fun x y => !(ltOf cfE) y x).toArray (d.toList.mergeSort fun x y => !(ltOf cfE) y x).toArray.size
theorem holdsK_of_own {w : World} {base : Nat} {g n c : Nat} {d : Array E} (hn : n = d.size) (h : w.ownsRow base 32 4 (.slice (some ⟨g, 0, none⟩) n c) n (flatK encE 4 d).toList) : HoldsK encE 4 w g 0 d := by
  intro j hj
  have hj' : j < n * 4 := by simp at hj; omega
  rw [Nat.zero_add]
  refine ⟨?_, h.frozenAt j⟩
  rw [h.cellAt j hj', getElem!_pos _ j hj]
  simp
theorem oneCells (d : Array E) : ∀ u ∈ (flatK encE 4 d).toList, u.oneCell' = true := by
  intro u hu
  unfold flatK at hu
  simp only [Array.toList_map, List.mem_map] at hu
  obtain ⟨t, _, rfl⟩ := hu
  have : t % 4 = 0 ∨ t % 4 = 1 ∨ t % 4 = 2 ∨ t % 4 = 3 := by omega
  rcases this with h | h | h | h <;> simp [h, encE] <;> rfl
theorem grownBy_sortWorldK (w : World) (n g : Nat) (d : Array E) (os : Array Obj) : w.grownBy (sortWorldK encE 4 w g 0 n d os) (some g) := by
  have h := grownBy_putRowK w n g 0 d
  unfold sortWorldK
  refine ⟨h.os, h.tape, h.output, ?_, fun k hk hne => ?_⟩
  · have := h.size
    show w.heap.size ≤ ((putRowK encE 4 (Sort.ahead w n) g 0 d).heap ++ os).size
    simp only [Array.size_append]
    omega
  · show ((putRowK encE 4 (Sort.ahead w n) g 0 d).heap ++ os)[k]? = _
    have := h.size
    rw [Array.getElem?_append_left (by omega)]
    exact h.block k hk hne
theorem holdsK_sortWorldK (w : World) (n g : Nat) (d d' : Array E) (os : Array Obj) (hg : g < w.heap.size) (h : HoldsK encE 4 w g 0 d) (hs : d'.size = d.size) : HoldsK encE 4 (sortWorldK encE 4 w g 0 n d' os) g 0 d' := by
  unfold sortWorldK
  have h1 := holdsK_putRowK encE 4 (Sort.ahead w n) g 0 d d' (holdsK_ahead encE 4 w n g 0 d h) hs
  refine holdsK_grow encE 4 _ os g 0 d' ?_ h1
  have := (grownBy_putRowK w n g 0 d').size
  omega
/-- What pack.Sort leaves, of a list that is not nil. -/
def Sorted (d : Array E) (w : World) (e : Ending) (w' : World) : Prop :=
  ∃ g cap, e = .returned (.slice (some ⟨g, 0, none⟩) (sortedE d).length cap) ∧ HoldsK encE 4 w' g 0 (sortedE d).toArray ∧ w.heap.size ≤ g ∧ Below w.heap.size w w'
set_option maxHeartbeats 1000000 in
theorem sort_any (b off c : Nat) (d : Array E) (w : World) (hd : d.size ≤ 1000000) (hc : ∀ j u, (flatK encE 4 d).toList[j]? = some u → w.cell? ⟨b, off + j, none⟩ = some u) :
    Calls Tryd.prog 21 #[.slice (some ⟨b, off, none⟩) d.size c] w (Sorted d w) := by
  have HC := Lib.hid (clone_any b off d.size c (flatK encE 4 d).toList w (by simp) hd hc (oneCells d))
  clear hc
  obtain ⟨s, hs⟩ : ∃ s, s = (d.toList.mergeSort fun x y => !(ltOf cfE) y x).toArray := ⟨_, rfl⟩
  have hss : s.size = d.size := by rw [hs]; simp
  have hse : sortedE d = compactUpTo s s.size := by rw [hs]; rfl
  have HF : Hid (∀ g cap w1, HoldsK encE 4 w1 g 0 d → g < w1.heap.size → Calls Tryd.prog 37 #[.slice (some ⟨g, 0, none⟩) d.size cap, .func (.func 38) #[] #[]] w1 fun e w' => e = .returned (.tuple #[]) ∧ HoldsK encE 4 w' g 0 s ∧ w1.grownBy w' (some g)) := Lib.hid fun g cap w1 h hg =>
    (sortFunc_any g 0 cap d w1 h hg (by omega)).mono fun _ _ ⟨he, n, os, hw⟩ => ⟨he, by rw [hw, ← hs]; exact holdsK_sortWorldK w1 n g d s os hg h hss, by rw [hw]; exact grownBy_sortWorldK w1 n g _ os⟩
  have HX : Hid (∀ g cap w2, HoldsK encE 4 w2 g 0 s → d.size ≤ cap → Calls Tryd.prog 39 #[.slice (some ⟨g, 0, none⟩) d.size cap] w2 (Compacted s g 0 cap w2)) := Lib.hid fun g cap w2 h hcap => by
    have := compact_any g 0 cap s w2 h (by omega) (by omega)
    rwa [hss] at this
  have HP : Hid (∀ g cap w1 w2 e w3, w.heap.size ≤ g → Below w.heap.size w w1 → w1.grownBy w2 (some g) → Compacted s g 0 cap w2 e w3 → Sorted d w e w3) := Lib.hid fun g cap w1 w2 e w3 hg hb h1 h2 => by
    obtain ⟨he, hH, hg3⟩ := h2
    refine ⟨g, cap, by rw [he, hse], by rw [hse]; exact hH, hg, ?_⟩
    have hb2 := hb.grown h1 hb.size (by intro k hk; cases hk; exact hg)
    exact hb2.grown hg3 (Nat.le_trans hb.size h1.size) (by intro k hk; cases hk; exact hg)
  clear hs hss hse
  generalize hPost : Sorted d w = Post at HP ⊢
  clear hPost
  go_enter Tryd.func21, Tryd.ntmps21
  go_wp2_with fail
  refine (HC.out).mono ?_
  rintro e w1 ⟨v', rfl, hown, hnn, hb⟩
  have hform : ∃ g cap, v' = .slice (some ⟨g, 0, none⟩) d.size cap ∧ w.heap.size ≤ g ∧ d.size ≤ cap ∧ g < w1.heap.size := by
    rcases hown.2 with ⟨h', _⟩ | ⟨g, cap, cur, hv, hbase, hheap, hnc, _⟩
    · exact absurd h' hnn
    · exact ⟨g, cap, hv, hbase, hnc, heap_lt hheap⟩
  obtain ⟨g, cap, rfl, hg, hcap, hlt⟩ := hform
  have HH := holdsK_of_own rfl hown
  have HS := Lib.hid (HF.out g cap w1 HH hlt)
  have HB := Lib.hid hb
  clear hown hnn HH hb HC HF
  go_wp2_with fail
  refine (HS.out).mono ?_
  rintro e w2 ⟨rfl, hH2, hg2⟩
  have HK := Lib.hid (HX.out g cap w2 hH2 hcap)
  have HG2 := Lib.hid hg2
  clear hH2 hg2
  go_wp2_with fail
  refine (HK.out).mono ?_
  intro e w3 hC
  have hE := hC.1
  have HE := Lib.hid (HP.out g cap w1 w2 e w3 hg HB.out HG2.out hC)
  subst hE
  clear hC
  go_wp2
  exact HE.out
end Go.Proofs.YtjknnbeemcpppaaDoor.Pk
