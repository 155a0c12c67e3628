/-
  Maps of the call's own whose elements are numbers of some kind, told by what is looked up (none: 0); keys that are arrays of two int32. Not a statement of the seat.
-/
import Derived.Test.YtakgepdlninnhaaDoorMpO
import Derived.DeepKeys4
import Derived.Maps.OwnSet
namespace Go.Proofs.YtakgepdlninnhaaDoor.Mp
open Go.ChangeShapes Go.WideShapes Go.ChangeAt Go.RowKit Go.Maps Base
variable {α : Type} {P : Program} {k e : TypeId} {g : α → Value} {q : IntKind}
/-- Block b is a map of at most m entries; at the key g x one looks up f x. -/
def MW (P : Program) (k e : TypeId) (q : IntKind) (g : α → Value) (w : World) (b m : Nat) (f : α → Int) : Prop :=
  ∃ D : DataW Unit, w.ownsMap P k (plainElem P e) b m D ∧ ∀ x kl, keyOf P k (g x) = some kl → D.atKey kl (.lit (.int q 0)) = .lit (.int q (f x))
theorem MW.made {w : World} {b : Nat} (h : w.heap[b]? = some (.map #[] 0)) : MW P k e q g w b 0 (fun _ => 0) := ⟨_, ownsMap_at h P k _, fun _ _ _ => rfl⟩
theorem MW.lt {w : World} {b n : Nat} {f : α → Int} (h : MW P k e q g w b n f) : b < w.heap.size := by obtain ⟨D, h, _⟩ := h; exact h.lt
theorem MW.heap {w w' : World} {b n : Nat} {f : α → Int} (h : MW P k e q g w b n f) (hh : w'.heap[b]? = w.heap[b]?) : MW P k e q g w' b n f := by
  obtain ⟨D, ⟨es, clock, hb, F, hs, hD⟩, h2⟩ := h
  exact ⟨D, ⟨es, clock, hh.trans hb, F, hs, hD⟩, h2⟩
theorem MW.below {w w' : World} {b n : Nat} {f : α → Int} (h : MW P k e q g w b n f) (hb : Below w.heap.size w w') : MW P k e q g w' b n f := h.heap (hb.block b h.lt)
theorem MW.look {w : World} {b n : Nat} {f : α → Int} (h : MW P k e q g w b n f) {t : TypeId} (K : Keyed P k) (ht : P.underlying t = some (.map k e)) (he : P.underlying e = some (.int q)) (hz : (zeroValue e).run P w = .ok (.int q 0) w) (x : α) {kl : Lit} (hkey : keyOf P k (g x) = some kl) :
    (Instr.lookup t (.map (some b)) (g x) false).run P w = .ok (.int q (f x)) w := by
  obtain ⟨D, h, h2⟩ := h
  obtain ⟨c, hr, hc, _⟩ := h.lookup_int K ht he hz hkey
  rw [h2 x kl hkey] at hc
  injection hc with hc
  injection hc with _ hc
  rw [hr, hc]
theorem MW.store {w : World} {b n : Nat} {f f' : α → Int} (h : MW P k e q g w b n f) {t : TypeId} (K : Keyed P k) (ht : P.underlying t = some (.map k e)) (he : P.underlying e = some (.int q)) (hn : n < maxLen) (x : α) {kl : Lit} (hkey : keyOf P k (g x) = some kl) (c : Int) (hc : (Lit.int q c).wf = true)
    (hsame : ∀ y, g y = g x → f' y = c) (hother : ∀ y, g y ≠ g x → f' y = f y) :
    ∃ w', (Instr.mapUpdate t (.map (some b)) (g x) (.int q c)).run P w = .ok () w' ∧ MW P k e q g w' b (n + 1) f' ∧ w.grownBy w' (some b) := by
  obtain ⟨D, h, h2⟩ := h
  obtain ⟨w', hr, ho, hg⟩ := h.update K ht hn hkey (plainElem_int he hc)
  refine ⟨w', hr, ⟨_, ho, fun y ky hky => ?_⟩, hg⟩
  by_cases e1 : g y = g x
  · have : ky = kl := by rw [e1, hkey] at hky; exact (Option.some.inj hky).symm
    subst this
    rw [atKey_put_same h.isMap (K.key hkey), hsame y e1]
  · have hkn : ky ≠ kl := fun e2 => e1 (K.inj (by rw [hky, e2]) hkey)
    rw [atKey_put_other hkn, hother y e1]
    exact h2 y ky hky
theorem MW.drop {w : World} {b n : Nat} {f f' : α → Int} (h : MW P k e q g w b n f) {t : TypeId} (K : Keyed P k) (ht : P.underlying t = some (.map k e)) (x : α) {kl : Lit} (hkey : keyOf P k (g x) = some kl) (ty : TypeId)
    (hsame : ∀ y, g y = g x → f' y = 0) (hother : ∀ y, g y ≠ g x → f' y = f y) :
    ∃ w', (Builtin.delete_ #[t, k] ty #[.map (some b), g x]).run P w = .ok (.tuple #[]) w' ∧ MW P k e q g w' b n f' ∧ w.grownBy w' (some b) := by
  obtain ⟨D, h, h2⟩ := h
  obtain ⟨w', hr, ho, hg⟩ := h.drop K ht hkey ty
  refine ⟨w', hr, ⟨_, ho, fun y ky hky => ?_⟩, hg.grown⟩
  by_cases e1 : g y = g x
  · have : ky = kl := by rw [e1, hkey] at hky; exact (Option.some.inj hky).symm
    subst this
    rw [atKey_del_same, hsame y e1]
  · have hkn : ky ≠ kl := fun e2 => e1 (K.inj (by rw [hky, e2]) hkey)
    rw [atKey_del_other hkn, hother y e1]
    exact h2 y ky hky
section
variable {w : World} {ops : Array Oper} {rest : List Oper} {o : Oper} {a : Act} {Q : Exit → Act → World → Prop} {t : TypeId} {b n : Nat}
theorem wp_lookY (K : Keyed P k) (ht : P.underlying t = some (.map k e)) (he : P.underlying e = some (.int q)) (hz : ∀ w, (zeroValue e).run P w = .ok (.int q 0) w) (hgd : o.guard = none) (m x : Operand) (hop : o.op = Op.lookup t m x false) {f : α → Int} (h : MW P k e q g w b n f)
    (hm : a.eval m = .map (some b)) (y : α) (hx : a.eval x = g y) {kl : Lit} (hkey : keyOf P k (g y) = some kl) (hK : wpList P ops Q rest (a.put o.dst (.int q (f y))) w) : wpList P ops Q (o :: rest) a w := by
  refine wpList_plain hgd fun K' hK' => ?_
  unfold Oper.wp
  simp [execOp, hop, hm, hx, h.look K ht he (hz w) y hkey, Result.andThen]
  exact hK' _ _ hK
theorem wp_storeY (K : Keyed P k) (ht : P.underlying t = some (.map k e)) (he : P.underlying e = some (.int q)) (hgd : o.guard = none) (m x v : Operand) (hop : o.op = Op.mapUpdate t m x v) {f : α → Int} (h : MW P k e q g w b n f) (hn : n < maxLen)
    (hm : a.eval m = .map (some b)) (y : α) (hx : a.eval x = g y) {kl : Lit} (hkey : keyOf P k (g y) = some kl) (c : Int) (hc : (Lit.int q c).wf = true) (hv : a.eval v = .int q c) (f' : α → Int) (hsame : ∀ z, g z = g y → f' z = c) (hother : ∀ z, g z ≠ g y → f' z = f z)
    (hK : ∀ w', MW P k e q g w' b (n + 1) f' → w.grownBy w' (some b) → wpList P ops Q rest (a.put o.dst undef) w') : wpList P ops Q (o :: rest) a w := by
  refine wpList_plain hgd fun K' hK' => ?_
  obtain ⟨w', hr, r1, r2⟩ := h.store K ht he hn y hkey c hc hsame hother
  unfold Oper.wp
  simp [execOp, hop, hm, hx, hv, hr, Result.andThen]
  exact hK' _ _ (hK w' r1 r2)
theorem wp_dropY (K : Keyed P k) (ht : P.underlying t = some (.map k e)) (hgd : o.guard = none) (m x : Operand) (hop : o.op = Op.call { callee := Callee.builtin Builtin.delete, args := #[m, x], argTypes := #[t, k] }) {f : α → Int} (h : MW P k e q g w b n f)
    (hm : a.eval m = .map (some b)) (y : α) (hx : a.eval x = g y) {kl : Lit} (hkey : keyOf P k (g y) = some kl) (f' : α → Int) (hsame : ∀ z, g z = g y → f' z = 0) (hother : ∀ z, g z ≠ g y → f' z = f z)
    (hK : ∀ w', MW P k e q g w' b n f' → w.grownBy w' (some b) → wpList P ops Q rest (a.put o.dst (.tuple #[])) w') : wpList P ops Q (o :: rest) a w := by
  refine wpList_plain hgd fun K' hK' => ?_
  obtain ⟨w', hr, r1, r2⟩ := h.drop K ht y hkey o.type hsame hother
  unfold Oper.wp
  simp [execOp, hop, resolve, invoke, builtin, hm, hx, hr, Result.andThen]
  exact hK' _ _ (hK w' r1 r2)
end
theorem laidOutY : laidOutB Tryd.prog = true := by kernel_rfl
theorem cellsIY : Tryd.prog.cellsOf 21 = 1 := by kernel_rfl
theorem lits_intY (d : Nat) (a : Int) (h : (Lit.int .i32 a).wf = true) : Tryd.prog.keyLits (d + 1) 21 [.int .i32 a] = some [.int .i32 a] := by
  unfold Program.keyLits
  rw [Tryd.underlying21]
  simp [h]
theorem keyedY : Keyed Tryd.prog 71 := Keyed.of_law (deep_law_laid laidOutY (m := 5) (by omega) (of_decide_eq_true (by kernel_rfl)) (by kernel_rfl) (by kernel_rfl))
theorem lits_y (d : Nat) (a b : Int) (ha : (Lit.int .i32 a).wf = true) (hb : (Lit.int .i32 b).wf = true) : Tryd.prog.keyLits (d + 2) 71 [.int .i32 a, .int .i32 b] = some [.int .i32 a, .int .i32 b] := by
  conv => lhs; unfold Program.keyLits
  rw [Tryd.underlying71]
  have hc : Tryd.prog.cellsOf 71 = 2 := by kernel_rfl
  simp only [hc]
  rw [if_pos (by rfl), show List.range 2 = [0, 1] from rfl]
  simp [cellsIY, lits_intY _ _ ha, lits_intY _ _ hb]
theorem key_y (a b : Int) (ha : -2147483648 ≤ a ∧ a ≤ 2147483647) (hb : -2147483648 ≤ b ∧ b ≤ 2147483647) : ∃ kl, keyOf Tryd.prog 71 (.agg #[.int .i32 a, .int .i32 b]) = some kl := by
  obtain ⟨n, hn⟩ : ∃ n, Tryd.prog.types.size + 1 = n + 2 := ⟨Tryd.prog.types.size - 1, by have : 0 < Tryd.prog.types.size := of_decide_eq_true (by kernel_rfl); omega⟩
  refine ⟨.string (keyBytes [.int .i32 a, .int .i32 b]), ?_⟩
  unfold keyOf
  rw [Tryd.underlying71]
  simp only
  rw [if_pos (by kernel_rfl), hn]
  show (Tryd.prog.keyLits (n + 2) 71 [.int .i32 a, .int .i32 b]).map _ = _
  rw [lits_y n a b (WalkArith.wf_i32 ha) (WalkArith.wf_i32 hb)]
  rfl
end Go.Proofs.YtakgepdlninnhaaDoor.Mp
