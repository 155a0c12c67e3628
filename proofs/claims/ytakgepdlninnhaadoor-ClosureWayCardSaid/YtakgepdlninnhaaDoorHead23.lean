/-
  Contracts of small functions, several texts laid into one. Not a statement of the seat.
-/
import Derived.Test.YtakgepdlninnhaaDoorOrMath
import Derived.Test.YtakgepdlninnhaaDoorMp
import Derived.Test.YtakgepdlninnhaaDoorLstSame
import Derived.Test.YtakgepdlninnhaaDoorHead11
namespace Go.Proofs.YtakgepdlninnhaaDoor.Or
open Go.ChangeShapes Go.WideShapes Go.ChangeAt Go.RowKit Base Lst
set_option maxHeartbeats 1000000 in
theorem index_any {base : Nat} {v : Value} {xs : List Int} (i : Int) (w : World) (h : Ints base w v xs) : Calls Tryd.prog 60 #[v, .int .i64 i] w fun e w' => e = .returned (.int .i64 (Om.idx xs i)) ∧ w = w' := by
  obtain ⟨p, c, rfl, hl, hc⟩ := h.open_
  have HC := Lib.hid hc
  have HY : Hid (∀ k, k < xs.length → xs.getD k 0 = i → (∀ j, j < k → xs.getD j 0 ≠ i) → Om.idx xs i = k) := Lib.hid fun k hk e hn => Om.idx_hit k hk e hn
  have HN : Hid ((∀ j, j < xs.length → xs.getD j 0 ≠ i) → Om.idx xs i = -1) := Lib.hid fun h => Om.idx_miss h
  clear hc h
  generalize Om.idx xs i = r at HY HN ⊢
  go_enter Tryd.func60, Tryd.ntmps60
  go_wp2_with fail
  go_loopw [8] (fun s8 wr => ∃ k : Nat, s8 = .int .i64 k ∧ k ≤ xs.length ∧ wr = w ∧ Hid (∀ j, j < k → xs.getD j 0 ≠ i)) (fun s8 _ => xs.length - (intOf s8).toNat)
  case atStart => exact ⟨0, rfl, Nat.zero_le _, rfl, Lib.hid fun j hj => absurd hj (by omega)⟩
  case round =>
    obtain ⟨k, rfl, hk, rfl, HK⟩ := hrel
    by_cases hlt : k < xs.length
    · obtain ⟨g', o', rfl, _, _, hcell⟩ := HC.out k hlt
      have HYK := Lib.hid (HY.out k hlt)
      have HKK : Hid (xs.getD k 0 ≠ i → ∀ j, j < k + 1 → xs.getD j 0 ≠ i) := Lib.hid fun h j hj => by
        by_cases e : j = k
        · rw [e]; exact h
        · exact HK.out j (by omega)
      generalize xs.getD k 0 = x at hcell HYK HKK
      by_cases hx : x = i
      · have HR := Lib.hid (HYK.out hx HK.out)
        subst hx
        clear HKK HK HYK
        go_wp2
        go_ret
        exact ⟨ret_int HR.out.symm, rfl⟩
      · have HK2 := Lib.hid (HKK.out hx)
        have hd : (i == x) = false := by rw [beq_eq_false_iff_ne]; exact fun e => hx e.symm
        clear HKK HK HYK
        go_wp2_with fail
        go_roundw
        case rel => exact ⟨k + 1, by go_num, by omega, trivial, HK2⟩
        case measure => simp [intOf]; omega
    · have HR := Lib.hid (HN.out (fun j hj => HK.out j (by omega)))
      clear HK HY HN
      go_wp2
      go_ret
      exact ⟨ret_int HR.out.symm, rfl⟩
theorem contains_any {base : Nat} {v : Value} {xs : List Int} (i : Int) (w : World) (h : Ints base w v xs) : Calls Tryd.prog 44 #[v, .int .i64 i] w fun e w' => e = .returned (.bool (decide (i ∈ xs))) ∧ w = w' := by
  have HI := Lib.hid (index_any i w h)
  have hb := Om.idx_bd xs i
  have HB : Hid (decide (i ∈ xs) = decide (0 ≤ Om.idx xs i)) := Lib.hid (by
    rw [decide_eq_decide]
    have := @Om.idx_neg xs i
    constructor
    · intro hm; exact Int.not_lt.1 fun hn => this.1 hn hm
    · intro hm; exact Classical.byContradiction fun hn => by have := this.2 hn; omega)
  rw [HB.out]
  clear HB h
  generalize Om.idx xs i = r at HI hb ⊢
  go_enter Tryd.func44, Tryd.ntmps44
  go_wp2_with (go_at_call 60; refine HI.out.mono ?_; rintro e w' ⟨rfl, rfl⟩)
  go_ret
  exact ⟨rfl, rfl⟩
end Go.Proofs.YtakgepdlninnhaaDoor.Or
namespace Go.Proofs.YtakgepdlninnhaaDoor.Or
open Go.ChangeShapes Go.WideShapes Go.ChangeAt Go.RowKit Base Lst
/-! maps of ints to bools, to ints -/
theorem keyed : Maps.Keyed Tryd.prog 3 := Maps.int_keyed Tryd.underlying3
theorem zeroBool (w : World) : (zeroValue 4).run Tryd.prog w = .ok (.bool false) w := by kernel_rfl
theorem zeroInt (w : World) : (zeroValue 3).run Tryd.prog w = .ok (.int .i64 0) w := by kernel_rfl
/-- The ids among zs, in block b. -/
abbrev Met (w : World) (b n : Nat) (zs : List Int) : Prop := Mp.MB Tryd.prog 3 4 (Value.int .i64) w b n (fun y => decide (y ∈ zs))
theorem met_made {w : World} {b : Nat} (h : w.heap[b]? = some (.map #[] 0)) : Met w b 0 [] := (Mp.MB.made h).ext fun x => by simp
/-- How often each id is left, in block b. -/
abbrev Cnt (w : World) (b n : Nat) (f : Int → Int) : Prop := Mp.MI Tryd.prog 3 3 (Value.int .i64) w b n f
theorem cnt_made {w : World} {b : Nat} (h : w.heap[b]? = some (.map #[] 0)) : Cnt w b 0 (fun _ => 0) := Mp.MI.made h
/-- Ids of 64 bits. -/
def Bd (xs : List Int) : Prop := ∀ x ∈ xs, -9223372036854775808 ≤ x ∧ x ≤ 9223372036854775807
theorem Bd.at {xs : List Int} (h : Bd xs) (k : Nat) : -9223372036854775808 ≤ xs.getD k 0 ∧ xs.getD k 0 ≤ 9223372036854775807 := by
  rcases Nat.lt_or_ge k xs.length with hk | hk
  · rw [List.getD_eq_getElem?_getD, List.getElem?_eq_getElem hk]
    exact h _ (List.getElem_mem hk)
  · rw [List.getD_eq_getElem?_getD, List.getElem?_eq_none hk]
    simp
/-- What a call leaves that tells a bool, and makes memory. -/
def BoolNew (r : Bool) (w : World) (e : Ending) (w' : World) : Prop := e = .returned (.bool r) ∧ Below w.heap.size w w'
end Go.Proofs.YtakgepdlninnhaaDoor.Or
