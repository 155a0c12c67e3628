/-
  dsg's maps: how often there is a reason for an edge, the numbers of versions, who is next. Not a statement of the seat.
-/
import Derived.Test.YtmgkpabagpgilaaHead19
import Derived.Test.YtmgkpabagpgilaaHead10
import Derived.Test.YtmgkpabagpgilaaMpX
import Derived.Test.YtmgkpabagpgilaaHead13
namespace Go.Proofs.Ytmgkpabagpgilaa.Dg
open Go.ChangeShapes Go.WideShapes Go.ChangeAt Go.RowKit Base F Tx Hi
def gE (e : Edg) : Value := .agg #[.int .i64 e.f, .int .i64 e.t, .int .i64 e.kd, .int .i64 e.k]
theorem gE_inj {p q : Edg} (h : gE p = gE q) : p = q := by
  obtain ⟨a, b, c, d⟩ := p
  obtain ⟨a', b', c', d'⟩ := q
  simp [gE] at h
  obtain ⟨rfl, rfl, rfl, rfl⟩ := h
  rfl
def Edg.ok (e : Edg) : Prop := i64 e.f ∧ i64 e.t ∧ i64 e.kd ∧ i64 e.k
theorem key_E {e : Edg} (h : Edg.ok e) : ∃ kl, keyOf Try.prog 33 (gE e) = some kl := Mp.key_e e.f e.t e.kd e.k h.1 h.2.1 h.2.2.1 h.2.2.2
abbrev ME (W : World) (b n : Nat) (f : Edg → Int) : Prop := Mp.MX Try.prog 33 3 gE W b n f
abbrev ML (W : World) (b n : Nat) (f : Int × Int → Int) : Prop := Mp.MI Try.prog 70 3 gH W b n f
abbrev MN (W : World) (b n : Nat) (f : Int × Int → Option Int) : Prop := Mp.MO Try.prog 70 3 gH W b n f
theorem inv_a (v : Value) (kl : Lit) (h : keyOf Try.prog 70 v = some kl) : ∃ q, v = gH q := Mp.key_a_inv v kl h
/-- What 'm[k]++' does to a map of counts, in its two steps; what is looked up ahead of each. -/
def BumpL (W : World) (b n : Nat) (_F0 F1 : Int × Int → Int) (t k m : Int) : Prop :=
  (Instr.lookup 68 (.map (some b)) (.agg #[.int .i64 t, .int .i64 k]) false).run Try.prog W = .ok (.int .i64 m) W ∧
  ∃ st w1, (Instr.mapEntry 68 (.map (some b)) (.agg #[.int .i64 t, .int .i64 k])).run Try.prog W = .ok (.tuple #[.int .i64 m, goInt st]) w1 ∧ W.grownBy w1 (some b) ∧
    (Instr.lookup 68 (.map (some b)) (.agg #[.int .i64 t, .int .i64 k]) false).run Try.prog w1 = .ok (.int .i64 m) w1 ∧
    ∃ w3, (Instr.entryStore 68 (.map (some b)) (goInt st) (.int .i64 (m + 1))).run Try.prog w1 = .ok () w3 ∧ ML w3 b (n + 1) F1 ∧ w1.grownBy w3 (some b)
theorem ml_look {W : World} {b n : Nat} {F0 : Int × Int → Int} (h : ML W b n F0) {t k m : Int} (ht : -9223372036854775808 ≤ t ∧ t ≤ 9223372036854775807) (hk : -9223372036854775808 ≤ k ∧ k ≤ 9223372036854775807) (h0 : F0 (t, k) = m) :
    (Instr.lookup 68 (.map (some b)) (.agg #[.int .i64 t, .int .i64 k]) false).run Try.prog W = .ok (.int .i64 m) W := by
  obtain ⟨kl, hkl⟩ := Mp.key_a t k ht hk
  have := h.look (t := 68) Mp.keyedA Try.underlying68 Try.underlying3 (zeroIn _) (t, k) hkl
  rw [h0] at this
  exact this
theorem ml_bump {W : World} {b n : Nat} {F0 F1 : Int × Int → Int} (h : ML W b n F0) (hn : n < maxLen) {t k m : Int} (ht : -9223372036854775808 ≤ t ∧ t ≤ 9223372036854775807) (hk : -9223372036854775808 ≤ k ∧ k ≤ 9223372036854775807) (hm : 0 ≤ m ∧ m < 9223372036854775807)
    (h0 : F0 (t, k) = m) (h1 : F1 (t, k) = m + 1) (h2 : ∀ q, q ≠ (t, k) → F1 q = F0 q) : BumpL W b n F0 F1 t k m := by
  refine ⟨ml_look h ht hk h0, ?_⟩
  obtain ⟨kl, hkl⟩ := Mp.key_a t k ht hk
  obtain ⟨st, w1, r1, r2, r3, r4⟩ := h.entry (t := 68) Mp.keyedA Try.underlying68 Try.underlying3 zeroIn hn (t, k) hkl (fun y e => by rw [gH_inj e]) (by rw [h0]; exact WalkArith.wf_i64 ⟨by omega, by omega⟩)
  rw [h0] at r1
  obtain ⟨w3, q1, q2, q3⟩ := r4 w1 (m + 1) F1 rfl (WalkArith.wf_i64 ⟨by omega, by omega⟩) (fun y e => by rw [gH_inj e, h1]) (fun y e => h2 y fun e2 => e (by rw [e2]))
  exact ⟨st, w1, r1, r3, ml_look r2 ht hk h0, w3, q1, q2, q3⟩
/-- 'm[k]++' at an edge. -/
def BumpE (W : World) (b n : Nat) (F1 : Edg → Int) (e : Edg) (m : Int) : Prop :=
  (Instr.lookup 52 (.map (some b)) (gE e) false).run Try.prog W = .ok (.int .i64 m) W ∧ ∃ st w1, (Instr.mapEntry 52 (.map (some b)) (gE e)).run Try.prog W = .ok (.tuple #[.int .i64 m, goInt st]) w1 ∧ W.grownBy w1 (some b) ∧
    (Instr.lookup 52 (.map (some b)) (gE e) false).run Try.prog w1 = .ok (.int .i64 m) w1 ∧
    ∃ w3, (Instr.entryStore 52 (.map (some b)) (goInt st) (.int .i64 (m + 1))).run Try.prog w1 = .ok () w3 ∧ ME w3 b (n + 1) F1 ∧ w1.grownBy w3 (some b)
theorem me_lookI {W : World} {b n : Nat} {F0 : Edg → Int} (h : Mp.MI Try.prog 33 3 gE W b n F0) {e : Edg} (he : Edg.ok e) : (Instr.lookup 52 (.map (some b)) (gE e) false).run Try.prog W = .ok (.int .i64 (F0 e)) W := by
  obtain ⟨kl, hkl⟩ := key_E he
  exact h.look (t := 52) Mp.keyedE Try.underlying52 Try.underlying3 (zeroIn _) e hkl
theorem me_look {W : World} {b n : Nat} {F0 : Edg → Int} (h : ME W b n F0) {e : Edg} (he : Edg.ok e) : (Instr.lookup 52 (.map (some b)) (gE e) false).run Try.prog W = .ok (.int .i64 (F0 e)) W := me_lookI h.int he
theorem me_bump {W : World} {b n : Nat} {F0 F1 : Edg → Int} (h : ME W b n F0) (hn : n < maxLen) {e : Edg} (he : Edg.ok e) (hm : 0 ≤ F0 e ∧ F0 e < 9223372036854775807)
    (h1 : F1 e = F0 e + 1) (h2 : ∀ q, q ≠ e → F1 q = F0 q) : BumpE W b n F1 e (F0 e) := by
  obtain ⟨kl, hkl⟩ := key_E he
  obtain ⟨st, w1, r1, r2, r3, r4⟩ := h.entry (t := 52) Mp.keyedE Try.underlying52 Try.underlying3 zeroIn hn e hkl (fun y e => by rw [gE_inj e]) (WalkArith.wf_i64 ⟨by omega, by omega⟩)
  obtain ⟨w3, q1, q2, q3⟩ := r4 w1 (F0 e + 1) F1 rfl (WalkArith.wf_i64 ⟨by omega, by omega⟩) (by omega) (fun y e => by rw [gE_inj e, h1]) (fun y e => h2 y fun e2 => e (by rw [e2]))
  exact ⟨me_look h he, st, w1, r1, r3, me_lookI r2 he, w3, q1, q2, q3⟩
/-- What lastOf leaves, and nextOf. -/
def LaP (P : Int → Bool) (xs : List Txn) (w : World) (e : Ending) (w' : World) : Prop := ∃ b n, e = .returned (.map (some b)) ∧ w.heap.size ≤ b ∧ ML w' b n (fun q => ((laH P xs q.1 q.2 : Nat) : Int)) ∧ Aft w w'
def NxP (P : Int → Bool) (os : List Ordr) (w : World) (e : Ending) (w' : World) : Prop := ∃ b n, e = .returned (.map (some b)) ∧ w.heap.size ≤ b ∧ n ≤ 1000 * os.length ∧ MN w' b n (nxH P os) ∧ Aft w w'
end Go.Proofs.Ytmgkpabagpgilaa.Dg
