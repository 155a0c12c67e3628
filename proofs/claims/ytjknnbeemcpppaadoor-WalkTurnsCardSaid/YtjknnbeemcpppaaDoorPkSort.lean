/-
  Contracts for pack.Sort: the order of edges is a total order; the library's sort by it; the copy. Not a statement of the seat.
-/
import Derived.Test.YtjknnbeemcpppaaDoorPkCmp
import Derived.Test.YtjknnbeemcpppaaDoorShelf
import Derived.Test.YtjknnbeemcpppaaDoorShelfE
namespace Go.Proofs.YtjknnbeemcpppaaDoor.Pk
open Go.ChangeShapes Go.WideShapes Go.ChangeAt Go.RowKit Base Go.Shelf Go.Lib Go.Sort
/-- An edge's four numbers: From, To, Kind, Key. -/
abbrev E := Int × Int × Int × Int
def encE (x : E) : List Value := [.int .i64 x.1, .int .i64 x.2.1, .int .i64 x.2.2.1, .int .i64 x.2.2.2]
def cfE (x y : E) : Int := cmpE x.1 x.2.1 x.2.2.1 x.2.2.2 y.1 y.2.1 y.2.2.1 y.2.2.2
/-- x stands ahead of y. -/
def ltE (x y : E) : Bool := decide (x.1 < y.1 ∨ x.1 = y.1 ∧ (x.2.2.1 < y.2.2.1 ∨ x.2.2.1 = y.2.2.1 ∧ (x.2.2.2 < y.2.2.2 ∨ x.2.2.2 = y.2.2.2 ∧ x.2.1 < y.2.1)))
theorem cmpI_neg (a b : Int) : cmpI a b < 0 ↔ a < b := by unfold cmpI; split <;> (try split) <;> omega
theorem cfE_neg (x y : E) : cfE x y < 0 ↔ (x.1 < y.1 ∨ x.1 = y.1 ∧ (x.2.2.1 < y.2.2.1 ∨ x.2.2.1 = y.2.2.1 ∧ (x.2.2.2 < y.2.2.2 ∨ x.2.2.2 = y.2.2.2 ∧ x.2.1 < y.2.1))) := by
  unfold cfE cmpE
  by_cases h0 : x.1 = y.1
  · rw [if_neg (by simp [h0])]
    by_cases h1 : x.2.2.1 = y.2.2.1
    · rw [if_neg (by simp [h1])]
      by_cases h2 : x.2.2.2 = y.2.2.2
      · rw [if_neg (by simp [h2])]
        by_cases h3 : x.2.1 = y.2.1
        · rw [if_neg (by simp [h3])]; omega
        · rw [if_pos h3, cmpI_neg]; omega
      · rw [if_pos h2, cmpI_neg]; omega
    · rw [if_pos h1, cmpI_neg]; omega
  · rw [if_pos h0, cmpI_neg]; omega
theorem ltOf_cfE (x y : E) : ltOf cfE x y = ltE x y := by
  unfold ltOf ltE
  by_cases h : cfE x y < 0
  · rw [decide_eq_true h, decide_eq_true ((cfE_neg x y).1 h)]
  · rw [decide_eq_false h, decide_eq_false (fun h' => h ((cfE_neg x y).2 h'))]
theorem ltE_iff (x y : E) : ltE x y = true ↔ (x.1 < y.1 ∨ x.1 = y.1 ∧ (x.2.2.1 < y.2.2.1 ∨ x.2.2.1 = y.2.2.1 ∧ (x.2.2.2 < y.2.2.2 ∨ x.2.2.2 = y.2.2.2 ∧ x.2.1 < y.2.1))) := by simp [ltE]
theorem ltE_no (x y : E) : ltE x y = false ↔ ¬ (x.1 < y.1 ∨ x.1 = y.1 ∧ (x.2.2.1 < y.2.2.1 ∨ x.2.2.1 = y.2.2.1 ∧ (x.2.2.2 < y.2.2.2 ∨ x.2.2.2 = y.2.2.2 ∧ x.2.1 < y.2.1))) := by simp only [ltE, decide_eq_false_iff_not]
theorem swoE : SWO (ltOf cfE) where
  irrefl x := by rw [ltOf_cfE, ltE_no]; omega
  trans x y z h1 h2 := by rw [ltOf_cfE, ltE_iff] at *; omega
  ntrans x y z h1 h2 := by rw [ltOf_cfE, ltE_no] at *; omega
theorem totE (x y : E) (h1 : ltOf cfE x y = false) (h2 : ltOf cfE y x = false) : x = y := by
  rw [ltOf_cfE, ltE_no] at *
  obtain ⟨x1, x2, x3, x4⟩ := x
  obtain ⟨y1, y2, y3, y4⟩ := y
  simp only [Prod.mk.injEq] at *
  omega
theorem cmpLays (blk off size : Nat) (w : World) : CmpLays Tryd.prog 38 #[] encE 4 cfE blk off size w := by
  intro m os dk _ x y
  exact (compare_any x.1 x.2.1 x.2.2.1 x.2.2.2 y.1 y.2.1 y.2.2.1 y.2.2.2 _).mono fun _ _ ⟨he, hg⟩ => ⟨he, hg.grow⟩
theorem sortFunc_any (blk off cap : Nat) (d : Array E) (w : World) (hH : HoldsK encE 4 w blk off d) (hblk : blk < w.heap.size) (hsz : d.size < 4611686018427387904) :
    Calls Tryd.prog 37 #[.slice (some ⟨blk, off, none⟩) d.size cap, .func (.func 38) #[] #[]] w fun e w' =>
      e = .returned (.tuple #[]) ∧ ∃ n os, w' = sortWorldK encE 4 w blk off n (d.toList.mergeSort fun x y => !(ltOf cfE) y x).toArray os :=
  AnyQ.slices_SortFunc_total Tryd.sortEdges 4 Tryd.isAgg32 Tryd.sizeOf32 encE (fun _ => rfl) (fun x v hv => by simp [encE] at hv; rcases hv with rfl | rfl | rfl | rfl <;> rfl) cfE swoE 38 #[] blk off cap d w
    (enters_of Tryd.func38 (by kernel_rfl) rfl) (cmpLays blk off d.size w) hH hblk hsz totE
theorem info : (Tryd.prog.info? 32).map (fun i => (i.zero, i.size, i.bytes)) = some (some (.agg #[.int .i64 0, .int .i64 0, .int .i64 0, .int .i64 0]), 4, 32) := by kernel_rfl
theorem clone_any (b off n c : Nat) (news : List Value) (w : World) (hl : news.length = n * 4) (hn : n ≤ 1000000)
    (hc : ∀ j u, news[j]? = some u → w.cell? ⟨b, off + j, none⟩ = some u) (h1 : ∀ u ∈ news, u.oneCell' = true) :
    Calls Tryd.prog 36 #[.slice (some ⟨b, off, none⟩) n c] w fun e w' => ∃ v', e = .returned v' ∧ w'.ownsRow w.heap.size 32 4 v' n news ∧ v' ≠ .slice none 0 0 ∧ Below w.heap.size w w' := by
  obtain ⟨i0, hi, hz0, hz1, hz2⟩ := info_parts info
  exact AnyE.slices_Clone Tryd.cloneEdges i0 _ 4 32 hi hz0 hz1 hz2 rfl (by omega) Tryd.sizeOf32 b off n c news w hl (by simp only [maxLen]; omega) (by omega) hc h1
end Go.Proofs.YtjknnbeemcpppaaDoor.Pk
