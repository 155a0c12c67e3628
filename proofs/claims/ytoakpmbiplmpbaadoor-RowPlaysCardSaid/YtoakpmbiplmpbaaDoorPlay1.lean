/-
  A contract of tells: a row that has just the places of a list is told as such. Not a statement of the seat.
-/
import Derived.Test.YtoakpmbiplmpbaaDoorRef3
import Derived.Test.YtoakpmbiplmpbaaDoorRowDoor
namespace Go.Proofs.YtoakpmbiplmpbaaDoor.Bits
open Go.ChangeShapes Go.WideShapes Go.ChangeAt Go.RowKit Base Go.Shelf
theorem pc_one (x : Nat) : pc 1 x = x % 2 := by rw [show (1 : Nat) = 0 + 1 from rfl, pc_succ, pc_nil]; rfl
theorem pc_top (m x : Nat) : pc (m + 1) x = pc m x + (x.testBit m).toNat := by
  rw [pc_add m 1, pc_mod, pc_one, Nat.testBit_eq_decide_div_mod_eq]
  rcases Nat.mod_two_eq_zero_or_one (x / 2 ^ m) with h | h <;> rw [h] <;> rfl
theorem pc_length (V : Nat) : ∀ n, (intsOf n V).length = pc n V
  | 0 => by rw [pc_nil]; rfl
  | n + 1 => by
    have ih := pc_length V n
    unfold intsOf at ih ⊢
    rw [List.length_map] at ih ⊢
    rw [pc_top, ← ih]
    unfold placesTo
    rw [List.range_succ, List.filter_append, List.length_append]
    congr 1
    cases h : V.testBit n <;> simp [h]
theorem nextL_sorted {xs : List Int} (hs : xs.Pairwise (· < ·)) {i j : Int} (hj : j ∈ xs) (hij : i ≤ j) (hno : ∀ x, x ∈ xs → i ≤ x → x < j → False) : nextL xs i = j := by
  obtain ⟨k, hk, e⟩ := List.mem_iff_getElem.1 hj
  have ek : xs.getD k 0 = j := by simp [hk, e]
  rw [← ek]
  refine nextL_at hk (by rw [ek]; exact hij) fun m hm => ?_
  have hm' : m < xs.length := by omega
  have hlt : xs[m] < xs[k] := List.pairwise_iff_getElem.1 hs m k hm' hk hm
  have em : xs.getD m 0 = xs[m] := by simp [hm']
  rw [em]
  rcases Int.lt_or_le xs[m] i with h | h
  · exact h
  · exact (hno _ (List.getElem_mem hm') h (by rw [← e]; exact hlt)).elim
theorem nextL_empty {xs : List Int} {i : Int} (hno : ∀ x, x ∈ xs → i ≤ x → False) : nextL xs i = -1 := by
  refine nextL_none fun j hj => ?_
  have ej : xs.getD j 0 = xs[j] := by simp [hj]
  rw [ej]
  rcases Int.lt_or_le xs[j] i with h | h
  · exact h
  · exact (hno _ (List.getElem_mem hj) h).elim
theorem next_eq {n V i : Nat} {r z : Int} (h : NextP n V i r) (hz : ∀ x ∈ intsOf n V, z ≤ x ↔ (i : Int) ≤ x) : r = nextL (intsOf n V) z := by
  rcases h with ⟨h1, h2⟩ | ⟨j, h1, h2, h3, h4, h5⟩
  · rw [h1, nextL_empty]
    intro x hx hzx
    have hix := (hz x hx).1 hzx
    obtain ⟨j, rfl, hj, hb⟩ := mem_intsOf.1 hx
    rw [h2 j (by omega) hj] at hb; cases hb
  · have hm : ((j : Nat) : Int) ∈ intsOf n V := mem_intsOf.2 ⟨j, rfl, h3, h4⟩
    rw [h1, nextL_sorted (sorted_intsOf n V) hm ((hz _ hm).2 (by omega))]
    intro x hx hzx hxj
    have hix := (hz x hx).1 hzx
    obtain ⟨m, rfl, hm', hb⟩ := mem_intsOf.1 hx
    rw [h5 m (by omega) (by omega)] at hb; cases hb
theorem next_all (b g N V : Nat) (z : Int) (w : World) (h : RowAt w b g N V) (hT : TabAt 0 Lib.deBruijn64tab w) :
    Calls Tryd.prog 46 #[.pointer (some ⟨b, 0, none⟩), .int .i64 z] w fun e w' => e = .returned (.int .i64 (nextL (intsOf N V) z)) ∧ ∃ q, w' = w.drewN q := by
  obtain ⟨i, hi⟩ := Int.eq_ofNat_of_zero_le (show 0 ≤ max z 0 by omega)
  refine (next_at b g N V i z hi w h fun _ => hT).mono fun e w' hh => ?_
  obtain ⟨⟨r, he, hr⟩, hw⟩ := hh
  refine ⟨?_, hw⟩
  rw [he, next_eq (z := z) hr]
  intro x hx
  obtain ⟨j, rfl, _, _⟩ := mem_intsOf.1 hx
  omega
set_option maxHeartbeats 2000000 in
set_option maxRecDepth 100000 in
theorem tells_any {b1 : Nat} (b g N V : Nat) (v : Value) (z : Int) (w : World) (h : RowAt w b g N V) (hx : Ints b1 w v (intsOf N V)) (hT : TabAt 0 Lib.deBruijn64tab w) (hg : 0 < w.heap.size) :
    Calls Tryd.prog 12 #[.pointer (some ⟨b, 0, none⟩), .int .i64 (N : Int), v, .int .i64 z] w fun e w' => e = .returned (.bool true) ∧ Below w.heap.size w w' := by
  have hN := h.2.2.1
  have HL := Lib.hid (len_any b g N V w h)
  have HC := Lib.hid (count_any b g N V w h)
  rw [← pc_length] at HC
  have HLI := Lib.hid (list_ints b g N V w h hT hg)
  have HR := Lib.hid h
  have HX := Lib.hid hx
  have HT := Lib.hid hT
  have HG := Lib.hid hg
  have hlen := intsOf_len N V
  have HIN : Hid (decide (z ∈ intsOf N V) = hasI N V z) := Lib.hid (intsOf_in z)
  obtain ⟨p, c, rfl, _, _⟩ := hx.open_
  clear h hx hT hg
  go_enter Tryd.func12, Tryd.ntmps12
  go_wp2_with fail
  refine (HL.out).mono ?_
  rintro e x ⟨rfl, rfl⟩
  go_wp2_with fail
  refine (HC.out).mono ?_
  rintro e x ⟨rfl, rfl⟩
  go_wp2_with fail
  refine (HLI.out).mono ?_
  rintro e w1 ⟨⟨lv, rfl, hv⟩, hb⟩
  have HSM := Lib.hid (sameInts_yes hv (HX.out.below hb))
  have HX1 := Lib.hid (HX.out.below hb)
  have HR1 := Lib.hid (HR.out.below hb)
  have HT1 := Lib.hid (tab_below HT.out HG.out hb)
  have HB1 := Lib.hid hb
  clear hv hb HLI HX HR HT HG HL HC
  go_wp2_with fail
  refine (HSM.out).mono ?_
  rintro e w2 ⟨rfl, hb⟩
  have HB2 := Lib.hid (HB1.out.trans (hb.mono HB1.out.size))
  have HX2 := Lib.hid (HX1.out.below hb)
  have HNX := Lib.hid (next_all b g N V z w2 (HR1.out.below hb) (fun j hj => by
    have hlt := table_lt HT1.out
    exact (hb.cell (p := ⟨_, j, none⟩) hlt).trans (HT1.out j hj)))
  have HHS := Lib.hid (fun q => has_any b g N V z (w2.drewN q) (HR1.out.below (below_drewN hb q)))
  have HNL := Lib.hid (fun q => nextl_any z (w2.drewN q) (HX2.out.below (below_drewN (Below.refl _ _) q)))
  have HII := Lib.hid (fun q => in_any z (w2.drewN q) (HX2.out.below (below_drewN (Below.refl _ _) q)))
  rw [HIN.out] at HII
  clear hb HSM HX1 HR1 HT1 HB1 HX2
  generalize nextL (intsOf N V) z = r at HNX HNL
  generalize hasI N V z = hb at HHS HII
  go_wp2_with fail
  refine (HNX.out).mono ?_
  rintro e x ⟨rfl, q, rfl⟩
  go_wp2_with fail
  refine (HNL.out q).mono ?_
  rintro e x ⟨rfl, rfl⟩
  go_wp2_with fail
  refine (HHS.out q).mono ?_
  rintro e x ⟨rfl, rfl⟩
  go_wp2_with fail
  refine (HII.out q).mono ?_
  rintro e x ⟨rfl, rfl⟩
  go_wp2
  go_ret
  exact ⟨ret_bool (by simp), below_drewN HB2.out q⟩
end Go.Proofs.YtoakpmbiplmpbaaDoor.Bits
