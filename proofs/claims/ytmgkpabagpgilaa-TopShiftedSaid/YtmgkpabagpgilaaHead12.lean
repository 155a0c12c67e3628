/-
  Contracts of small functions, several texts laid into one. Not a statement of the seat.
-/
import Derived.Test.YtmgkpabagpgilaaOrMath
import Derived.Test.YtmgkpabagpgilaaMp
import Derived.Test.YtmgkpabagpgilaaLstSame
import Derived.Test.YtmgkpabagpgilaaLstAp
namespace Go.Proofs.Ytmgkpabagpgilaa.Or
open Go.ChangeShapes Go.WideShapes Go.ChangeAt Go.RowKit Base Lst
end Go.Proofs.Ytmgkpabagpgilaa.Or
namespace Go.Proofs.Ytmgkpabagpgilaa.Or
open Go.ChangeShapes Go.WideShapes Go.ChangeAt Go.RowKit Base Lst
/-! maps of ints to bools, to ints -/
theorem keyed : Maps.Keyed Try.prog 3 := Maps.int_keyed Try.underlying3
theorem zeroBool (w : World) : (zeroValue 4).run Try.prog w = .ok (.bool false) w := by kernel_rfl
theorem zeroInt (w : World) : (zeroValue 3).run Try.prog w = .ok (.int .i64 0) w := by kernel_rfl
/-- The ids among zs, in block b. -/
abbrev Met (w : World) (b n : Nat) (zs : List Int) : Prop := Mp.MB Try.prog 3 4 (Value.int .i64) w b n (fun y => decide (y ∈ zs))
theorem met_made {w : World} {b : Nat} (h : w.heap[b]? = some (.map #[] 0)) : Met w b 0 [] := (Mp.MB.made h).ext fun x => by simp
/-- How often each id is left, in block b. -/
abbrev Cnt (w : World) (b n : Nat) (f : Int → Int) : Prop := Mp.MI Try.prog 3 3 (Value.int .i64) w b n f
theorem cnt_look {w : World} {b n : Nat} {f : Int → Int} (h : Cnt w b n f) (x : Int) (hx : -9223372036854775808 ≤ x ∧ x ≤ 9223372036854775807) : (Instr.lookup 91 (.map (some b)) (.int .i64 x) false).run Try.prog w = .ok (.int .i64 (f x)) w :=
  h.look keyed Try.underlying91 Try.underlying3 (zeroInt w) x (Mp.key_int Try.underlying3 hx)
theorem cnt_made {w : World} {b : Nat} (h : w.heap[b]? = some (.map #[] 0)) : Cnt w b 0 (fun _ => 0) := Mp.MI.made h
theorem cnt_store {w : World} {ops : Array Oper} {rest : List Oper} {o : Oper} {a : Act} {Q : Exit → Act → World → Prop} {b n : Nat} (hgd : o.guard = none) (m x v : Operand) (hop : o.op = Op.mapUpdate 91 m x v) {f : Int → Int} (h : Cnt w b n f) (hn : n < maxLen)
    (hm : a.eval m = .map (some b)) (y : Int) (hx : a.eval x = .int .i64 y) (hy : -9223372036854775808 ≤ y ∧ y ≤ 9223372036854775807) (c : Int) (hc : -9223372036854775808 ≤ c ∧ c ≤ 9223372036854775807) (hv : a.eval v = .int .i64 c)
    (hK : ∀ w', Cnt w' b (n + 1) (fun z => if z = y then c else f z) → w.grownBy w' (some b) → wpList Try.prog ops Q rest (a.put o.dst undef) w') : wpList Try.prog ops Q (o :: rest) a w :=
  Mp.wp_storeI keyed Try.underlying91 Try.underlying3 hgd m x v hop h hn hm y hx (Mp.key_int Try.underlying3 hy) c (WalkArith.wf_i64 hc) hv _ (fun z e => by simp [Mp.int_inj e]) (fun z e => by
    have : z ≠ y := fun e2 => e (by rw [e2])
    simp [this]) hK
/-- Ids of 64 bits. -/
def Bd (xs : List Int) : Prop := ∀ x ∈ xs, -9223372036854775808 ≤ x ∧ x ≤ 9223372036854775807
theorem Bd.at {xs : List Int} (h : Bd xs) (k : Nat) : -9223372036854775808 ≤ xs.getD k 0 ∧ xs.getD k 0 ≤ 9223372036854775807 := by
  rcases Nat.lt_or_ge k xs.length with hk | hk
  · rw [List.getD_eq_getElem?_getD, List.getElem?_eq_getElem hk]
    exact h _ (List.getElem_mem hk)
  · rw [List.getD_eq_getElem?_getD, List.getElem?_eq_none hk]
    simp
/-- What a call leaves that tells a bool, and makes memory. -/
def BoolNew (r : Bool) (w : World) (e : Ending) (w' : World) : Prop := e = .returned (.bool r) ∧ Below w.heap.size w w'
set_option maxHeartbeats 1000000 in
theorem perm_any {base : Nat} {v u : Value} {xs ys : List Int} (w : World) (h : Ints base w v xs) (hu : Ints base w u ys) (hx : xs.length ≤ 1000000) (hbx : Bd xs) (hby : Bd ys) : Calls Try.prog 32 #[v, u] w (BoolNew (Om.permB xs ys) w) := by
  obtain ⟨p, c, rfl, hl, hc⟩ := h.open_
  obtain ⟨p', c', rfl, hl', hc'⟩ := hu.open_
  have HC := Lib.hid hc
  have HC' := Lib.hid hc'
  have HB := Lib.hid hbx
  have HB' := Lib.hid hby
  have HE : Hid (∀ r w', r = Om.permB xs ys → Below w.heap.size w w' → BoolNew (Om.permB xs ys) w (.returned (.bool r)) w') := Lib.hid fun r w' h1 h2 => ⟨by rw [h1], h2⟩
  by_cases hn : xs.length = ys.length
  · have HBAD : Hid (∀ k, k < ys.length → xs.count (ys.getD k 0) = (ys.take k).count (ys.getD k 0) → Om.permB xs ys = false) := Lib.hid fun k hk hb => Om.perm_no_at hk hb
    have HEND : Hid ((∀ y, ys.count y ≤ xs.count y) → Om.permB xs ys = true) := Lib.hid fun h => Om.perm_yes hn h
    have hb : ((xs.length : Int) != (ys.length : Int)) = false := by rw [bne_eq_false_iff_eq]; omega
    have hly : ys.length ≤ 1000000 := by omega
    clear hc hc' h hu hbx hby hn
    generalize BoolNew (Om.permB xs ys) w = Post at HE ⊢
    go_enter Try.func32, Try.ntmps32
    have hmm := @run_makeMap Try.prog
    go_wp2
    go_loopw [18] (fun s18 wr => ∃ k : Nat, s18 = .int .i64 k ∧ k ≤ xs.length ∧ Hid (Cnt wr w.heap.size k (fun y => ((xs.take k).count y : Nat))) ∧ Hid (Below w.heap.size w wr)) (fun s18 _ => xs.length - (intOf s18).toNat)
    case atStart => exact ⟨0, rfl, Nat.zero_le _, Lib.hid ((cnt_made (heap_alloc_at _ _ _ rfl)).ext fun y => by simp), Lib.hid ((Below.refl _ _).alloc (Nat.le_refl _) _)⟩
    case round =>
      obtain ⟨k, rfl, hk, HM, HW⟩ := hrel
      by_cases hlt : k < xs.length
      · obtain ⟨g', o', rfl, _, hg', hcell0⟩ := HC.out k hlt
        have hcell := (HW.out.cell (p := ⟨g', o' + k, none⟩) hg').trans hcell0
        have hbx := HB.out.at k
        have hrun := cnt_look HM.out (xs.getD k 0) hbx
        have hcl : (xs.take k).count (xs.getD k 0) ≤ k := Nat.le_trans List.count_le_length (by rw [List.length_take]; omega)
        have HTK : Hid (∀ y, ((if y = xs.getD k 0 then (((xs.take k).count (xs.getD k 0) : Nat) : Int) + 1 else (((xs.take k).count y : Nat) : Int)) = (((xs.take (k + 1)).count y : Nat) : Int))) := Lib.hid fun y => by
          rw [Om.count_take xs k hlt]
          by_cases e : y = xs.getD k 0
          · rw [if_pos e, if_pos e, e]; omega
          · rw [if_neg e, if_neg e]; omega
        clear hcell0
        generalize xs.getD k 0 = x at hcell hbx hrun hcl HTK
        obtain ⟨m, hm⟩ : ∃ m, m = (xs.take k).count x := ⟨_, rfl⟩
        rw [← hm] at hrun hcl HTK
        have HMM := Lib.hid hm
        clear hm
        have hmi : -9223372036854775808 ≤ (m : Int) + 1 ∧ (m : Int) + 1 ≤ 9223372036854775807 := by omega
        go_wp2_with (at_mapUpdate; refine cnt_store rfl _ _ _ rfl HM.out (by simp only [maxLen]; omega) rfl x rfl hbx ((m : Int) + 1) hmi rfl ?_; intro w1 hm1 hg1; have HM1 := Lib.hid hm1; have HG1 := Lib.hid hg1; clear hm1 hg1 hrun)
        go_roundw
        case rel => exact ⟨k + 1, by go_num, by omega, Lib.hid (HM1.out.ext HTK.out), Lib.hid (HW.out.grown HG1.out HW.out.size (fun j hj => by cases hj; exact Nat.le_refl _))⟩
        case measure => simp [intOf]; omega
      · obtain rfl : k = xs.length := by omega
        have HM0 : Hid (Cnt wr w.heap.size xs.length (fun y => ((xs.count y : Nat) : Int))) := Lib.hid (HM.out.ext fun y => by rw [List.take_length])
        clear HM hlt
        go_wp2
        go_loopw [29] (fun s29 wr => ∃ k : Nat, s29 = .int .i64 k ∧ k ≤ ys.length ∧ Hid (∀ y, (ys.take k).count y ≤ xs.count y) ∧ Hid (Cnt wr w.heap.size (xs.length + k) (fun y => ((xs.count y : Nat) : Int) - (((ys.take k).count y : Nat) : Int))) ∧ Hid (Below w.heap.size w wr)) (fun s29 _ => ys.length - (intOf s29).toNat)
        case atStart => exact ⟨0, rfl, Nat.zero_le _, Lib.hid (by simp), Lib.hid (HM0.out.ext fun y => by simp), HW⟩
        case round =>
          obtain ⟨k, rfl, hk, HR, HM, HW⟩ := hrel
          by_cases hlt : k < ys.length
          · obtain ⟨g', o', rfl, _, hg', hcell0⟩ := HC'.out k hlt
            have hcell := (HW.out.cell (p := ⟨g', o' + k, none⟩) hg').trans hcell0
            have hbx := HB'.out.at k
            have HBK := Lib.hid (HBAD.out k hlt)
            have hrun := cnt_look HM.out (ys.getD k 0) hbx
            have hle := HR.out (ys.getD k 0)
            have hcl : xs.count (ys.getD k 0) ≤ 1000000 := Nat.le_trans List.count_le_length hx
            have HTK : Hid (∀ y, ((if y = ys.getD k 0 then ((xs.count (ys.getD k 0) : Nat) : Int) - (((ys.take k).count (ys.getD k 0) : Nat) : Int) - 1 else ((xs.count y : Nat) : Int) - (((ys.take k).count y : Nat) : Int)) = ((xs.count y : Nat) : Int) - (((ys.take (k + 1)).count y : Nat) : Int))) := Lib.hid fun y => by
              rw [Om.count_take ys k hlt]
              by_cases e : y = ys.getD k 0
              · rw [if_pos e, if_pos e, e]; omega
              · rw [if_neg e, if_neg e]; omega
            have HST : Hid (xs.count (ys.getD k 0) ≠ (ys.take k).count (ys.getD k 0) → ∀ y, (ys.take (k + 1)).count y ≤ xs.count y) := Lib.hid fun hne y => by
              have := HR.out y
              rw [Om.count_take ys k hlt]
              by_cases e : y = ys.getD k 0
              · rw [if_pos e]; subst e; omega
              · rw [if_neg e]; omega
            clear hcell0
            generalize ys.getD k 0 = x at hcell hbx HBK hrun hle hcl HTK HST
            obtain ⟨m, hm⟩ : ∃ m, m = xs.count x := ⟨_, rfl⟩
            obtain ⟨j, hj⟩ : ∃ j, j = (ys.take k).count x := ⟨_, rfl⟩
            rw [← hm] at hrun hcl HTK HBK HST hle
            rw [← hj] at hrun HTK HBK HST hle
            clear hm hj
            by_cases hz : m = j
            · have HX := Lib.hid (HBK.out hz)
              subst hz
              have h0 : ((m : Int) - (m : Int)) = 0 := by omega
              rw [h0] at hrun
              clear HR HM HST HBK hle hcl HTK h0
              go_wp2
              exact HE.out _ _ HX.out.symm HW.out
            · have HX := Lib.hid (HST.out hz)
              have hd : ((m : Int) - (j : Int) == 0) = false := by rw [beq_eq_false_iff_ne]; omega
              have hmi : -9223372036854775808 ≤ (m : Int) - (j : Int) - 1 ∧ (m : Int) - (j : Int) - 1 ≤ 9223372036854775807 := by omega
              obtain ⟨d, hd'⟩ : ∃ d : Int, d = (m : Int) - (j : Int) := ⟨_, rfl⟩
              rw [← hd'] at hrun HTK hd hmi
              clear HR HST HBK hz hle hcl hd'
              go_wp2_with (at_mapUpdate; refine cnt_store rfl _ _ _ rfl HM.out (by simp only [maxLen]; omega) rfl x rfl hbx (d - 1) hmi rfl ?_; intro w1 hm1 hg1; have HM1 := Lib.hid hm1; have HG1 := Lib.hid hg1; clear hm1 hg1 hrun)
              go_roundw
              case rel => exact ⟨k + 1, by go_num, by omega, HX, Lib.hid (HM1.out.ext HTK.out), Lib.hid (HW.out.grown HG1.out HW.out.size (fun j hj => by cases hj; exact Nat.le_refl _))⟩
              case measure => simp [intOf]; omega
          · have HX := Lib.hid (HEND.out fun y => by
              have := HR.out y
              rwa [List.take_of_length_le (by omega)] at this)
            clear HR HM
            go_wp2
            exact HE.out _ _ HX.out.symm HW.out
  · have HX := Lib.hid (Om.perm_len hn)
    have hb : ((xs.length : Int) != (ys.length : Int)) = true := by rw [bne_iff_ne]; omega
    clear hc hc' h hu hbx hby hn
    generalize BoolNew (Om.permB xs ys) w = Post at HE ⊢
    go_enter Try.func32, Try.ntmps32
    go_wp2
    exact HE.out _ _ HX.out.symm (Below.refl _ _)
end Go.Proofs.Ytmgkpabagpgilaa.Or
