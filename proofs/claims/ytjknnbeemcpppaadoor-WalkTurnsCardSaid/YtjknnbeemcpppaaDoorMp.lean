/-
  Maps of the call's own whose elements are bools or ints, told by a plain function of the keys. Not a statement of the seat.
-/
import Derived.Test.YtjknnbeemcpppaaDoorBase
import Derived.Maps.OwnSet
import Derived.Deep.RegionLaw
namespace Go.Proofs.YtjknnbeemcpppaaDoor.Mp
open Go.ChangeShapes Go.WideShapes Go.ChangeAt Go.RowKit Go.Maps Base
variable {α : Type} {P : Program} {k e : TypeId} {g : α → Value}
theorem plainElem_bool_inv (he : P.underlying e = some .bool) {v : Value} {z : DataW Unit × List MemPlace} (h : plainElem P e v = some z) : ∃ b, v = .bool b ∧ z = (.lit (.bool b), []) := by
  unfold plainElem at h
  rw [he] at h
  cases v <;> simp at h
  exact ⟨_, rfl, h.symm⟩
/-- Block b is a map of at most n entries; at the key g x it holds f x. -/
def MB (P : Program) (k e : TypeId) (g : α → Value) (w : World) (b n : Nat) (f : α → Bool) : Prop :=
  ∃ D : DataW Unit, w.ownsMap P k (plainElem P e) b n D ∧ ∀ x kl, keyOf P k (g x) = some kl → D.atKey kl (.lit (.bool false)) = .lit (.bool (f x))
def MI (P : Program) (k e : TypeId) (g : α → Value) (w : World) (b n : Nat) (f : α → Int) : Prop :=
  ∃ D : DataW Unit, w.ownsMap P k (plainElem P e) b n D ∧ ∀ x kl, keyOf P k (g x) = some kl → D.atKey kl (.lit (.int .i64 0)) = .lit (.int .i64 (f x))
theorem ownsMap_at {w : World} {b : Nat} (h : w.heap[b]? = some (.map #[] 0)) (P : Program) (k : TypeId) (R : Value → Option (DataW Unit × List MemPlace)) : w.ownsMap P k R b 0 (.map []) :=
  ⟨#[], 0, h, ⟨by simp, MapKept.stamped_empty 0, by simp⟩, Nat.le_refl _, rfl⟩
theorem MB.made {w : World} {b : Nat} (h : w.heap[b]? = some (.map #[] 0)) : MB P k e g w b 0 (fun _ => false) := ⟨_, ownsMap_at h P k _, fun _ _ _ => rfl⟩
theorem MI.made {w : World} {b : Nat} (h : w.heap[b]? = some (.map #[] 0)) : MI P k e g w b 0 (fun _ => 0) := ⟨_, ownsMap_at h P k _, fun _ _ _ => rfl⟩
theorem MB.lt {w : World} {b n : Nat} {f : α → Bool} (h : MB P k e g w b n f) : b < w.heap.size := by obtain ⟨D, h, _⟩ := h; exact h.lt
theorem MI.lt {w : World} {b n : Nat} {f : α → Int} (h : MI P k e g w b n f) : b < w.heap.size := by obtain ⟨D, h, _⟩ := h; exact h.lt
theorem MB.kept {w w' : World} {b n : Nat} {f : α → Bool} {row : Option Nat} (h : MB P k e g w b n f) (hg : w.grownBy w' row) (hne : some b ≠ row) : MB P k e g w' b n f := by
  obtain ⟨D, h, h2⟩ := h; exact ⟨D, h.kept hg hne, h2⟩
theorem MI.kept {w w' : World} {b n : Nat} {f : α → Int} {row : Option Nat} (h : MI P k e g w b n f) (hg : w.grownBy w' row) (hne : some b ≠ row) : MI P k e g w' b n f := by
  obtain ⟨D, h, h2⟩ := h; exact ⟨D, h.kept hg hne, h2⟩
theorem owns_heap {w w' : World} {b n : Nat} {R : Value → Option (DataW Unit × List MemPlace)} {D : DataW Unit} (h : w.ownsMap P k R b n D) (hh : w'.heap[b]? = w.heap[b]?) : w'.ownsMap P k R b n D := by
  obtain ⟨es, clock, hb, r⟩ := h
  exact ⟨es, clock, hh.trans hb, r⟩
/-- Where the block reads as it did. -/
theorem MB.heap {w w' : World} {b n : Nat} {f : α → Bool} (h : MB P k e g w b n f) (hh : w'.heap[b]? = w.heap[b]?) : MB P k e g w' b n f := by
  obtain ⟨D, h, h2⟩ := h; exact ⟨D, owns_heap h hh, h2⟩
theorem MI.heap {w w' : World} {b n : Nat} {f : α → Int} (h : MI P k e g w b n f) (hh : w'.heap[b]? = w.heap[b]?) : MI P k e g w' b n f := by
  obtain ⟨D, h, h2⟩ := h; exact ⟨D, owns_heap h hh, h2⟩
theorem MB.below {w w' : World} {b n : Nat} {f : α → Bool} (h : MB P k e g w b n f) (hb : Below w.heap.size w w') : MB P k e g w' b n f := h.heap (hb.block b h.lt)
theorem MI.below {w w' : World} {b n : Nat} {f : α → Int} (h : MI P k e g w b n f) (hb : Below w.heap.size w w') : MI P k e g w' b n f := h.heap (hb.block b h.lt)
/-- In a world that was laid on, or drawn from. -/
theorem MB.lay {w X : World} {b n : Nat} {f : α → Bool} (h : MB P k e g w b n f) (hx : X.heap = w.heap) (o : Obj) : MB P k e g (X.alloc o) b n f := by
  have h1 : MB P k e g X b n f := h.heap (by rw [hx])
  exact h1.heap (Below.heap_alloc _ _ _ h1.lt)
theorem MI.lay {w X : World} {b n : Nat} {f : α → Int} (h : MI P k e g w b n f) (hx : X.heap = w.heap) (o : Obj) : MI P k e g (X.alloc o) b n f := by
  have h1 : MI P k e g X b n f := h.heap (by rw [hx])
  exact h1.heap (Below.heap_alloc _ _ _ h1.lt)
theorem MB.ext {w : World} {b n : Nat} {f f' : α → Bool} (h : MB P k e g w b n f) (he : ∀ x, f x = f' x) : MB P k e g w b n f' := by
  have : f = f' := funext he
  rwa [← this]
theorem MI.ext {w : World} {b n : Nat} {f f' : α → Int} (h : MI P k e g w b n f) (he : ∀ x, f x = f' x) : MI P k e g w b n f' := by
  have : f = f' := funext he
  rwa [← this]
theorem MB.mono {w : World} {b n n' : Nat} {f : α → Bool} (h : MB P k e g w b n f) (hn : n ≤ n') : MB P k e g w b n' f := by
  obtain ⟨D, h, h2⟩ := h; exact ⟨D, h.mono hn, h2⟩
theorem MI.mono {w : World} {b n n' : Nat} {f : α → Int} (h : MI P k e g w b n f) (hn : n ≤ n') : MI P k e g w b n' f := by
  obtain ⟨D, h, h2⟩ := h; exact ⟨D, h.mono hn, h2⟩
/-- m[k], as an equation on the run. -/
theorem MB.look {w : World} {b n : Nat} {f : α → Bool} (h : MB P k e g w b n f) {t : TypeId} (K : Keyed P k) (ht : P.underlying t = some (.map k e)) (he : P.underlying e = some .bool) (hz : (zeroValue e).run P w = .ok (.bool false) w) (x : α) {kl : Lit} (hkey : keyOf P k (g x) = some kl) :
    (Instr.lookup t (.map (some b)) (g x) false).run P w = .ok (.bool (f x)) w := by
  obtain ⟨D, h, h2⟩ := h
  obtain ⟨v, ps, hr, hv⟩ := h.lookup K ht hz (plainElem_bool he false) hkey
  obtain ⟨c, rfl, hc⟩ := plainElem_bool_inv he hv
  rw [h2 x kl hkey] at hc
  rw [hr]
  have : f x = c := by simp at hc; exact hc.1
  rw [this]
theorem MI.look {w : World} {b n : Nat} {f : α → Int} (h : MI P k e g w b n f) {t : TypeId} (K : Keyed P k) (ht : P.underlying t = some (.map k e)) (he : P.underlying e = some (.int .i64)) (hz : (zeroValue e).run P w = .ok (.int .i64 0) w) (x : α) {kl : Lit} (hkey : keyOf P k (g x) = some kl) :
    (Instr.lookup t (.map (some b)) (g x) false).run P w = .ok (.int .i64 (f x)) w := by
  obtain ⟨D, h, h2⟩ := h
  obtain ⟨c, hr, hat, _⟩ := h.lookup_int K ht he hz hkey
  rw [h2 x kl hkey] at hat
  rw [hr]
  have : f x = c := by simpa using hat
  rw [this]
/-- m[k] = v. -/
theorem MB.store {w : World} {b n : Nat} {f f' : α → Bool} (h : MB P k e g w b n f) {t : TypeId} (K : Keyed P k) (ht : P.underlying t = some (.map k e)) (he : P.underlying e = some .bool) (hn : n < maxLen) (x : α) {kl : Lit} (hkey : keyOf P k (g x) = some kl) (c : Bool)
    (hsame : ∀ y, g y = g x → f' y = c) (hother : ∀ y, g y ≠ g x → f' y = f y) :
    ∃ w', (Instr.mapUpdate t (.map (some b)) (g x) (.bool c)).run P w = .ok () w' ∧ MB P k e g w' b (n + 1) f' ∧ w.grownBy w' (some b) := by
  obtain ⟨D, h, h2⟩ := h
  obtain ⟨w', hr, ho, hg⟩ := h.update K ht hn hkey (plainElem_bool he c)
  refine ⟨w', hr, ⟨_, ho, fun y ky hky => ?_⟩, hg⟩
  by_cases e1 : g y = g x
  · have : ky = kl := by rw [e1, hkey] at hky; exact (Option.some.inj hky).symm
    subst this
    rw [atKey_put_same h.isMap (K.key hkey), hsame y e1]
  · rw [atKey_put_other (fun e2 => e1 (K.inj (by rw [hky, e2]) hkey)), h2 y ky hky, hother y e1]
theorem MI.store {w : World} {b n : Nat} {f f' : α → Int} (h : MI P k e g w b n f) {t : TypeId} (K : Keyed P k) (ht : P.underlying t = some (.map k e)) (he : P.underlying e = some (.int .i64)) (hn : n < maxLen) (x : α) {kl : Lit} (hkey : keyOf P k (g x) = some kl) (c : Int) (hc : (Lit.int .i64 c).wf = true)
    (hsame : ∀ y, g y = g x → f' y = c) (hother : ∀ y, g y ≠ g x → f' y = f y) :
    ∃ w', (Instr.mapUpdate t (.map (some b)) (g x) (.int .i64 c)).run P w = .ok () w' ∧ MI P k e g w' b (n + 1) f' ∧ w.grownBy w' (some b) := by
  obtain ⟨D, h, h2⟩ := h
  obtain ⟨w', hr, ho, hg⟩ := h.update K ht hn hkey (plainElem_int he hc)
  refine ⟨w', hr, ⟨_, ho, fun y ky hky => ?_⟩, hg⟩
  by_cases e1 : g y = g x
  · have : ky = kl := by rw [e1, hkey] at hky; exact (Option.some.inj hky).symm
    subst this
    rw [atKey_put_same h.isMap (K.key hkey), hsame y e1]
  · rw [atKey_put_other (fun e2 => e1 (K.inj (by rw [hky, e2]) hkey)), h2 y ky hky, hother y e1]
section
variable {w : World} {ops : Array Oper} {rest : List Oper} {o : Oper} {a : Act} {Q : Exit → Act → World → Prop} {t : TypeId} {b n : Nat}
/-- m[k] at the operation. -/
theorem wp_look (K : Keyed P k) (ht : P.underlying t = some (.map k e)) (he : P.underlying e = some .bool) (hz : ∀ w, (zeroValue e).run P w = .ok (.bool false) w) (hgd : o.guard = none) (m x : Operand) (hop : o.op = Op.lookup t m x false) {f : α → Bool} (h : MB P k e g w b n f)
    (hm : a.eval m = .map (some b)) (y : α) (hx : a.eval x = g y) {kl : Lit} (hkey : keyOf P k (g y) = some kl) (hK : wpList P ops Q rest (a.put o.dst (.bool (f y))) w) : wpList P ops Q (o :: rest) a w := by
  refine wpList_plain hgd fun K' hK' => ?_
  unfold Oper.wp
  simp [execOp, hop, hm, hx, h.look K ht he (hz w) y hkey, Result.andThen]
  exact hK' _ _ hK
theorem wp_lookI (K : Keyed P k) (ht : P.underlying t = some (.map k e)) (he : P.underlying e = some (.int .i64)) (hz : ∀ w, (zeroValue e).run P w = .ok (.int .i64 0) w) (hgd : o.guard = none) (m x : Operand) (hop : o.op = Op.lookup t m x false) {f : α → Int} (h : MI P k e g w b n f)
    (hm : a.eval m = .map (some b)) (y : α) (hx : a.eval x = g y) {kl : Lit} (hkey : keyOf P k (g y) = some kl) (hK : wpList P ops Q rest (a.put o.dst (.int .i64 (f y))) w) : wpList P ops Q (o :: rest) a w := by
  refine wpList_plain hgd fun K' hK' => ?_
  unfold Oper.wp
  simp [execOp, hop, hm, hx, h.look K ht he (hz w) y hkey, Result.andThen]
  exact hK' _ _ hK
/-- m[k] = v at the operation. -/
theorem wp_store (K : Keyed P k) (ht : P.underlying t = some (.map k e)) (he : P.underlying e = some .bool) (hgd : o.guard = none) (m x v : Operand) (hop : o.op = Op.mapUpdate t m x v) {f : α → Bool} (h : MB P k e g w b n f) (hn : n < maxLen)
    (hm : a.eval m = .map (some b)) (y : α) (hx : a.eval x = g y) {kl : Lit} (hkey : keyOf P k (g y) = some kl) (c : Bool) (hv : a.eval v = .bool c) (f' : α → Bool) (hsame : ∀ z, g z = g y → f' z = c) (hother : ∀ z, g z ≠ g y → f' z = f z)
    (hK : ∀ w', MB P k e g w' b (n + 1) f' → w.grownBy w' (some b) → wpList P ops Q rest (a.put o.dst undef) w') : wpList P ops Q (o :: rest) a w := by
  refine wpList_plain hgd fun K' hK' => ?_
  obtain ⟨w', hr, r1, r2⟩ := h.store K ht he hn y hkey c hsame hother
  unfold Oper.wp
  simp [execOp, hop, hm, hx, hv, hr, Result.andThen]
  exact hK' _ _ (hK w' r1 r2)
theorem wp_storeI (K : Keyed P k) (ht : P.underlying t = some (.map k e)) (he : P.underlying e = some (.int .i64)) (hgd : o.guard = none) (m x v : Operand) (hop : o.op = Op.mapUpdate t m x v) {f : α → Int} (h : MI P k e g w b n f) (hn : n < maxLen)
    (hm : a.eval m = .map (some b)) (y : α) (hx : a.eval x = g y) {kl : Lit} (hkey : keyOf P k (g y) = some kl) (c : Int) (hc : (Lit.int .i64 c).wf = true) (hv : a.eval v = .int .i64 c) (f' : α → Int) (hsame : ∀ z, g z = g y → f' z = c) (hother : ∀ z, g z ≠ g y → f' z = f z)
    (hK : ∀ w', MI P k e g w' b (n + 1) f' → w.grownBy w' (some b) → wpList P ops Q rest (a.put o.dst undef) w') : wpList P ops Q (o :: rest) a w := by
  refine wpList_plain hgd fun K' hK' => ?_
  obtain ⟨w', hr, r1, r2⟩ := h.store K ht he hn y hkey c hc hsame hother
  unfold Oper.wp
  simp [execOp, hop, hm, hx, hv, hr, Result.andThen]
  exact hK' _ _ (hK w' r1 r2)
end
theorem int_inj {x y : Int} (h : Value.int .i64 x = Value.int .i64 y) : x = y := by injection h
theorem key_int {P : Program} {k : TypeId} (hk : P.underlying k = some (.int .i64)) {x : Int} (h : -9223372036854775808 ≤ x ∧ x ≤ 9223372036854775807) : keyOf P k (.int .i64 x) = some (.int .i64 x) := keyOf_int_mk hk (WalkArith.wf_i64 h)
end Go.Proofs.YtjknnbeemcpppaaDoor.Mp
