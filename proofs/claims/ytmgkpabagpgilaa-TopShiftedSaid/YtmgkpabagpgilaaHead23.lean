/-
  Contracts of small functions, several texts laid into one. Not a statement of the seat.
-/
import Derived.Test.YtmgkpabagpgilaaHead19
import Derived.Test.YtmgkpabagpgilaaHead10
import Derived.Test.YtmgkpabagpgilaaHead13
import Derived.Test.YtmgkpabagpgilaaTx5
import Derived.Test.YtmgkpabagpgilaaOp1
namespace Go.Proofs.Ytmgkpabagpgilaa.Off
open Go.ChangeShapes Go.WideShapes Go.ChangeAt Go.RowKit Base F Tx Hi
abbrev MA (W : World) (b n : Nat) (f : Int × Int → Int) : Prop := Mp.MI Try.prog 70 3 gH W b n f
abbrev MD (W : World) (b n : Nat) (f : Int → Bool) : Prop := Mp.MB Try.prog 3 4 (Value.int .i64) W b n f
/-- What 'm[k]++' does to a map of counts, in its two steps; what is looked up ahead of each. -/
def BumpA (W : World) (b n : Nat) (_F0 F1 : Int × Int → Int) (t k m : Int) : Prop :=
  (Instr.lookup 68 (.map (some b)) (.agg #[.int .i64 t, .int .i64 k]) false).run Try.prog W = .ok (.int .i64 m) W ∧
  ∃ st w1, (Instr.mapEntry 68 (.map (some b)) (.agg #[.int .i64 t, .int .i64 k])).run Try.prog W = .ok (.tuple #[.int .i64 m, goInt st]) w1 ∧ W.grownBy w1 (some b) ∧
    (Instr.lookup 68 (.map (some b)) (.agg #[.int .i64 t, .int .i64 k]) false).run Try.prog w1 = .ok (.int .i64 m) w1 ∧
    ∃ w3, (Instr.entryStore 68 (.map (some b)) (goInt st) (.int .i64 (m + 1))).run Try.prog w1 = .ok () w3 ∧ MA w3 b (n + 1) F1 ∧ w1.grownBy w3 (some b)
theorem ma_look {W : World} {b n : Nat} {F0 : Int × Int → Int} (h : MA W b n F0) {t k m : Int} (ht : -9223372036854775808 ≤ t ∧ t ≤ 9223372036854775807) (hk : -9223372036854775808 ≤ k ∧ k ≤ 9223372036854775807) (h0 : F0 (t, k) = m) :
    (Instr.lookup 68 (.map (some b)) (.agg #[.int .i64 t, .int .i64 k]) false).run Try.prog W = .ok (.int .i64 m) W := by
  obtain ⟨kl, hkl⟩ := Mp.key_a t k ht hk
  have := h.look (t := 68) Mp.keyedA Try.underlying68 Try.underlying3 (zeroIn _) (t, k) hkl
  rw [h0] at this
  exact this
theorem ma_bump {W : World} {b n : Nat} {F0 F1 : Int × Int → Int} (h : MA W b n F0) (hn : n < maxLen) {t k m : Int} (ht : -9223372036854775808 ≤ t ∧ t ≤ 9223372036854775807) (hk : -9223372036854775808 ≤ k ∧ k ≤ 9223372036854775807) (hm : 0 ≤ m ∧ m < 9223372036854775807)
    (h0 : F0 (t, k) = m) (h1 : F1 (t, k) = m + 1) (h2 : ∀ q, q ≠ (t, k) → F1 q = F0 q) : BumpA W b n F0 F1 t k m := by
  refine ⟨ma_look h ht hk h0, ?_⟩
  obtain ⟨kl, hkl⟩ := Mp.key_a t k ht hk
  obtain ⟨st, w1, r1, r2, r3, r4⟩ := h.entry (t := 68) Mp.keyedA Try.underlying68 Try.underlying3 zeroIn hn (t, k) hkl (fun y e => by rw [gH_inj e]) (by rw [h0]; exact WalkArith.wf_i64 ⟨by omega, by omega⟩)
  rw [h0] at r1
  obtain ⟨w3, q1, q2, q3⟩ := r4 w1 (m + 1) F1 rfl (WalkArith.wf_i64 ⟨by omega, by omega⟩) (fun y e => by rw [gH_inj e, h1]) (fun y e => h2 y fun e2 => e (by rw [e2]))
  exact ⟨st, w1, r1, r3, ma_look r2 ht hk h0, w3, q1, q2, q3⟩
theorem done_take {xs : List Txn} (hp : xs.Pairwise (fun a b => a.id < b.id)) {k : Nat} (hk : k < xs.length) (id : Int) : doneF (xs.take (k + 1)) id = if id = (xs.getD k Txn.zero).id then (xs.getD k Txn.zero).dn else doneF (xs.take k) id := by
  have h1 : ∀ x ∈ xs.take k, x.id < (xs.getD k Txn.zero).id := fun x hx => by
    obtain ⟨j, hj, e⟩ := List.getElem_of_mem hx
    rw [List.length_take] at hj
    have := pw_at Txn.zero Txn.id hp (j := j) (k := k) (by omega) hk
    rw [List.getElem_take] at e
    rw [List.getD_eq_getElem?_getD, List.getElem?_eq_getElem (show j < xs.length by omega)] at this
    rw [← e]
    exact this
  rw [take_snoc xs Txn.zero k hk]
  generalize xs.getD k Txn.zero = t at h1
  generalize xs.take k = l at h1
  induction l with
  | nil =>
    by_cases e : id = t.id
    · rw [if_pos e]; simp [doneF, findT, e]
    · rw [if_neg e]
      show (match findT [t] id with | some t => t.dn | none => false) = (match findT [] id with | some t => t.dn | none => false)
      have e3 : findT [t] id = none := by
        rw [findT, if_neg (fun e2 : t.id = id => e e2.symm)]
        rfl
      rw [e3]
      rfl
  | cons x l ih =>
    have h2 := h1 x List.mem_cons_self
    have ih := ih fun y hy => h1 y (List.mem_cons_of_mem _ hy)
    unfold doneF at ih ⊢
    rw [List.cons_append]
    simp only [findT]
    by_cases e : x.id = id
    · rw [if_pos e, if_pos e, if_neg (by omega)]
    · rw [if_neg e, if_neg e]
      exact ih
/-- What writtenOf leaves. -/
def WtP (xs : List Txn) (w : World) (e : Ending) (w' : World) : Prop := ∃ bd bw n1 n2, e = .returned (.agg #[.map (some bd), .map (some bw)]) ∧ MD w' bd n1 (doneF xs) ∧ MA w' bw n2 (fun q => ((cntW xs q.1 q.2 : Nat) : Int)) ∧ Aft w w'
end Go.Proofs.Ytmgkpabagpgilaa.Off
namespace Go.Proofs.Ytmgkpabagpgilaa.Off
open Go.ChangeShapes Go.WideShapes Go.ChangeAt Go.RowKit Base F Tx Hi Go.Sort
def verV (v : Ver) : Value := .agg #[.int .i64 v.t, .int .i64 v.k, .int .i64 v.n]
def oprV (x : Opr) : Value := .agg #[.bool x.rd, .int .i64 x.k, .int .i64 x.t, .int .i64 x.n]
theorem of_any (x : Opr) (w : World) : Calls Try.prog 46 #[oprV x] w fun e w' => e = .returned (verV (verO x)) ∧ Aft w w' := by
  obtain ⟨rd, k, t, n⟩ := x
  cases rd with
  | true => exact Op.of_r k t n w
  | false => exact Op.of_w k t n w
def offQ (d : Int → Bool) (f : Int × Int → Int) (v : Ver) (ph : Int) : Bool := if ph = 2 then !(d v.t) else if ph = 3 then decide (v.n < f (v.t, v.k)) else false
end Go.Proofs.Ytmgkpabagpgilaa.Off
