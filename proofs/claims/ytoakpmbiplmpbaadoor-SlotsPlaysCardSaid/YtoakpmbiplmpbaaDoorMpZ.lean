/-
  Maps of the call's own whose elements are numbers of some kind, told exactly: which keys there are, what they hold, and how many they are. Not a statement of the seat.
-/
import Derived.Test.YtoakpmbiplmpbaaDoorMpO
namespace Go.Proofs.YtoakpmbiplmpbaaDoor.Mp
open Go.ChangeShapes Go.WideShapes Go.ChangeAt Go.RowKit Go.Maps Base
variable {α : Type} {P : Program} {k e : TypeId} {g : α → Value} {q : IntKind}
/-- Block b is a map of m entries; at the key g x it holds f x, if that is something. -/
def MZ (P : Program) (k e : TypeId) (q : IntKind) (g : α → Value) (w : World) (b m : Nat) (f : α → Option Int) : Prop :=
  ∃ D : DataW Unit, w.ownsMap P k (plainElem P e) b m D ∧ size D = m ∧ ∀ x kl, keyOf P k (g x) = some kl → has D kl = (f x).isSome ∧ D.atKey kl (.lit (.int q 0)) = .lit (.int q ((f x).getD 0))
theorem MZ.made {w : World} {b : Nat} (h : w.heap[b]? = some (.map #[] 0)) : MZ P k e q g w b 0 (fun _ => none) := ⟨_, ownsMap_at h P k _, rfl, fun _ _ _ => ⟨by simp [has_eq], rfl⟩⟩
theorem MZ.lt {w : World} {b n : Nat} {f : α → Option Int} (h : MZ P k e q g w b n f) : b < w.heap.size := by obtain ⟨D, h, _⟩ := h; exact h.lt
theorem MZ.kept {w w' : World} {b n : Nat} {f : α → Option Int} {row : Option Nat} (h : MZ P k e q g w b n f) (hg : w.grownBy w' row) (hne : some b ≠ row) : MZ P k e q g w' b n f := by
  obtain ⟨D, h, h2⟩ := h; exact ⟨D, h.kept hg hne, h2⟩
theorem MZ.heap {w w' : World} {b n : Nat} {f : α → Option Int} (h : MZ P k e q g w b n f) (hh : w'.heap[b]? = w.heap[b]?) : MZ P k e q g w' b n f := by
  obtain ⟨D, h, h2⟩ := h; exact ⟨D, owns_heap h hh, h2⟩
theorem MZ.below {w w' : World} {b n : Nat} {f : α → Option Int} (h : MZ P k e q g w b n f) (hb : Below w.heap.size w w') : MZ P k e q g w' b n f := h.heap (hb.block b h.lt)
theorem MZ.ext {w : World} {b n : Nat} {f f' : α → Option Int} (h : MZ P k e q g w b n f) (he : ∀ x, f x = f' x) : MZ P k e q g w b n f' := by
  have : f = f' := funext he
  rwa [← this]
/-- v, is := m[k]. -/
theorem MZ.look {w : World} {b n : Nat} {f : α → Option Int} (h : MZ P k e q g w b n f) {t : TypeId} (K : Keyed P k) (ht : P.underlying t = some (.map k e)) (he : P.underlying e = some (.int q)) (hz : (zeroValue e).run P w = .ok (.int q 0) w) (x : α) {kl : Lit} (hkey : keyOf P k (g x) = some kl) :
    (Instr.lookup t (.map (some b)) (g x) true).run P w = .ok (.tuple #[.int q ((f x).getD 0), .bool (f x).isSome]) w := by
  obtain ⟨D, h, _, h2⟩ := h
  obtain ⟨v, ps, hr, hv⟩ := h.look_ok K ht hz (plainElem_int he (by cases q <;> decide)) hkey
  obtain ⟨c, rfl, hc, _⟩ := plainElem_int_inv he hv
  obtain ⟨h3, h4⟩ := h2 x kl hkey
  rw [h4] at hc
  rw [hr, h3]
  have : (f x).getD 0 = c := by simp at hc; exact hc.1
  rw [this]
theorem MZ.len {w : World} {b n : Nat} {f : α → Option Int} (h : MZ P k e q g w b n f) {t : TypeId} (ht : P.underlying t = some (.map k e)) (ty : TypeId) : (Builtin.len_ #[t] ty #[.map (some b)]).run P w = .ok (.int .i64 n) w := by
  obtain ⟨D, h, h1, _⟩ := h
  rw [h.len ht ty, h1]
/-- m[k] = v. -/
theorem MZ.store {w : World} {b n : Nat} {f f' : α → Option Int} (h : MZ P k e q g w b n f) {t : TypeId} (K : Keyed P k) (ht : P.underlying t = some (.map k e)) (he : P.underlying e = some (.int q)) (hn : n < maxLen) (x : α) {kl : Lit} (hkey : keyOf P k (g x) = some kl) (c : Int) (hc : (Lit.int q c).wf = true)
    (hnew : f x = none) (hsame : ∀ y, g y = g x → f' y = some c) (hother : ∀ y, g y ≠ g x → f' y = f y) :
    ∃ w', (Instr.mapUpdate t (.map (some b)) (g x) (.int q c)).run P w = .ok () w' ∧ MZ P k e q g w' b (n + 1) f' ∧ w.grownBy w' (some b) := by
  obtain ⟨D, h, h1, h2⟩ := h
  obtain ⟨w', hr, ho, hg⟩ := h.store K ht hn hkey (plainElem_int he hc)
  have h3 := (h2 x kl hkey).1
  rw [hnew] at h3
  refine ⟨w', hr, ⟨_, ho, ?_, fun y ky hky => ?_⟩, hg.grown⟩
  · rw [size_put (h.tidy K), h3, h1]; rfl
  by_cases e1 : g y = g x
  · have : ky = kl := by rw [e1, hkey] at hky; exact (Option.some.inj hky).symm
    subst this
    rw [has_put_same h.isMap (K.key hkey), atKey_put_same h.isMap (K.key hkey), hsame y e1]
    exact ⟨rfl, rfl⟩
  · have hkn : ky ≠ kl := fun e2 => e1 (K.inj (by rw [hky, e2]) hkey)
    rw [has_put_other hkn, atKey_put_other hkn, hother y e1]
    exact h2 y ky hky
theorem owns_size {w : World} {b n : Nat} {R : Value → Option (DataW Unit × List MemPlace)} {D : DataW Unit} (h : w.ownsMap P k R b n D) : w.ownsMap P k R b (size D) D := by
  obtain ⟨es, clock, hb, F, hs, rfl⟩ := h
  refine ⟨es, clock, hb, F, ?_, rfl⟩
  show es.size ≤ size _
  rw [size_eq, length_read]
  exact Nat.le_refl _
/-- delete(m, k), of a key that is there. -/
theorem MZ.drop {w : World} {b n : Nat} {f f' : α → Option Int} (h : MZ P k e q g w b (n + 1) f) {t : TypeId} (K : Keyed P k) (ht : P.underlying t = some (.map k e)) (x : α) {kl : Lit} (hkey : keyOf P k (g x) = some kl) (ty : TypeId)
    (hold : (f x).isSome = true) (hsame : ∀ y, g y = g x → f' y = none) (hother : ∀ y, g y ≠ g x → f' y = f y) :
    ∃ w', (Builtin.delete_ #[t, k] ty #[.map (some b), g x]).run P w = .ok (.tuple #[]) w' ∧ MZ P k e q g w' b n f' ∧ w.grownBy w' (some b) := by
  obtain ⟨D, h, h1, h2⟩ := h
  obtain ⟨w', hr, ho, hg⟩ := h.drop K ht hkey ty
  have h3 := (h2 x kl hkey).1
  rw [hold] at h3
  have hsz : size (D.del kl) = n := by
    have := size_del (k := kl) (h.tidy K)
    rw [h3, h1] at this
    simpa using this
  refine ⟨w', hr, ⟨_, hsz ▸ owns_size ho, hsz, fun y ky hky => ?_⟩, hg.grown⟩
  by_cases e1 : g y = g x
  · have : ky = kl := by rw [e1, hkey] at hky; exact (Option.some.inj hky).symm
    subst this
    rw [has_del_same, atKey_del_same, hsame y e1]
    exact ⟨rfl, rfl⟩
  · have hkn : ky ≠ kl := fun e2 => e1 (K.inj (by rw [hky, e2]) hkey)
    rw [has_del_other hkn, atKey_del_other hkn, hother y e1]
    exact h2 y ky hky
section
variable {w : World} {ops : Array Oper} {rest : List Oper} {o : Oper} {a : Act} {Q : Exit → Act → World → Prop} {t : TypeId} {b n : Nat}
theorem wp_lookZ (K : Keyed P k) (ht : P.underlying t = some (.map k e)) (he : P.underlying e = some (.int q)) (hz : ∀ w, (zeroValue e).run P w = .ok (.int q 0) w) (hgd : o.guard = none) (m x : Operand) (hop : o.op = Op.lookup t m x true) {f : α → Option Int} (h : MZ P k e q g w b n f)
    (hm : a.eval m = .map (some b)) (y : α) (hx : a.eval x = g y) {kl : Lit} (hkey : keyOf P k (g y) = some kl) (hK : wpList P ops Q rest (a.put o.dst (.tuple #[.int q ((f y).getD 0), .bool (f y).isSome])) w) : wpList P ops Q (o :: rest) a w := by
  refine wpList_plain hgd fun K' hK' => ?_
  unfold Oper.wp
  simp [execOp, hop, hm, hx, h.look K ht he (hz w) y hkey, Result.andThen]
  exact hK' _ _ hK
theorem wp_storeZ (K : Keyed P k) (ht : P.underlying t = some (.map k e)) (he : P.underlying e = some (.int q)) (hgd : o.guard = none) (m x v : Operand) (hop : o.op = Op.mapUpdate t m x v) {f : α → Option Int} (h : MZ P k e q g w b n f) (hn : n < maxLen)
    (hm : a.eval m = .map (some b)) (y : α) (hx : a.eval x = g y) {kl : Lit} (hkey : keyOf P k (g y) = some kl) (c : Int) (hc : (Lit.int q c).wf = true) (hv : a.eval v = .int q c) (f' : α → Option Int) (hnew : f y = none) (hsame : ∀ z, g z = g y → f' z = some c) (hother : ∀ z, g z ≠ g y → f' z = f z)
    (hK : ∀ w', MZ P k e q g w' b (n + 1) f' → w.grownBy w' (some b) → wpList P ops Q rest (a.put o.dst undef) w') : wpList P ops Q (o :: rest) a w := by
  refine wpList_plain hgd fun K' hK' => ?_
  obtain ⟨w', hr, r1, r2⟩ := h.store K ht he hn y hkey c hc hnew hsame hother
  unfold Oper.wp
  simp [execOp, hop, hm, hx, hv, hr, Result.andThen]
  exact hK' _ _ (hK w' r1 r2)
theorem wp_dropZ (K : Keyed P k) (ht : P.underlying t = some (.map k e)) (hgd : o.guard = none) (m x : Operand) (hop : o.op = Op.call { callee := Callee.builtin Builtin.delete, args := #[m, x], argTypes := #[t, k] }) {f : α → Option Int} (h : MZ P k e q g w b (n + 1) f)
    (hm : a.eval m = .map (some b)) (y : α) (hx : a.eval x = g y) {kl : Lit} (hkey : keyOf P k (g y) = some kl) (f' : α → Option Int) (hold : (f y).isSome = true) (hsame : ∀ z, g z = g y → f' z = none) (hother : ∀ z, g z ≠ g y → f' z = f z)
    (hK : ∀ w', MZ P k e q g w' b n f' → w.grownBy w' (some b) → wpList P ops Q rest (a.put o.dst (.tuple #[])) w') : wpList P ops Q (o :: rest) a w := by
  refine wpList_plain hgd fun K' hK' => ?_
  obtain ⟨w', hr, r1, r2⟩ := h.drop K ht y hkey o.type hold hsame hother
  unfold Oper.wp
  simp [execOp, hop, resolve, invoke, builtin, hm, hx, hr, Result.andThen]
  exact hK' _ _ (hK w' r1 r2)
theorem wp_lenZ (ht : P.underlying t = some (.map k e)) (hgd : o.guard = none) (m : Operand) (hop : o.op = Op.call { callee := Callee.builtin Builtin.len, args := #[m], argTypes := #[t] }) {f : α → Option Int} (h : MZ P k e q g w b n f)
    (hm : a.eval m = .map (some b)) (hK : wpList P ops Q rest (a.put o.dst (.int .i64 n)) w) : wpList P ops Q (o :: rest) a w := by
  refine wpList_plain hgd fun K' hK' => ?_
  unfold Oper.wp
  simp [execOp, hop, resolve, invoke, builtin, hm, h.len ht o.type, Result.andThen]
  exact hK' _ _ hK
end
theorem key_of {P : Program} {k : TypeId} {q : IntKind} (hk : P.underlying k = some (.int q)) {x : Int} (h : (Lit.int q x).wf = true) : keyOf P k (.int q x) = some (.int q x) := keyOf_int_mk hk h
end Go.Proofs.YtoakpmbiplmpbaaDoor.Mp
