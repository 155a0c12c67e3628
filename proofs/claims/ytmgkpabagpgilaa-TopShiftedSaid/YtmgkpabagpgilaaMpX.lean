/-
  Maps of the call's own to ints: there is an entry just where the number is not 0. Not a statement of the seat.
-/
import Derived.Test.YtmgkpabagpgilaaMpO
import Derived.Test.YtmgkpabagpgilaaMpE
namespace Go.Proofs.Ytmgkpabagpgilaa.Mp
open Go.ChangeShapes Go.WideShapes Go.ChangeAt Go.RowKit Go.Maps Base Go.MapKept Go.ChangeMaps Go.WideElems
variable {α : Type} {P : Program} {k e : TypeId} {g : α → Value}
/-- Block b is a map of at most n entries; at the key g x it holds f x, and there is an entry just if that is not 0. -/
def MX (P : Program) (k e : TypeId) (g : α → Value) (w : World) (b n : Nat) (f : α → Int) : Prop :=
  ∃ D : DataW Unit, w.ownsMap P k (plainElem P e) b n D ∧ ∀ x kl, keyOf P k (g x) = some kl → D.atKey kl (.lit (.int .i64 0)) = .lit (.int .i64 (f x)) ∧ has D kl = !decide (f x = 0)
theorem MX.int {w : World} {b n : Nat} {f : α → Int} (h : MX P k e g w b n f) : MI P k e g w b n f := by obtain ⟨D, h, h2⟩ := h; exact ⟨D, h, fun x kl hk => (h2 x kl hk).1⟩
theorem MX.made {w : World} {b : Nat} (h : w.heap[b]? = some (.map #[] 0)) : MX P k e g w b 0 (fun _ => 0) := ⟨_, ownsMap_at h P k _, fun _ _ _ => ⟨rfl, by simp [has_eq]⟩⟩
theorem MX.lt {w : World} {b n : Nat} {f : α → Int} (h : MX P k e g w b n f) : b < w.heap.size := h.int.lt
theorem MX.kept {w w' : World} {b n : Nat} {f : α → Int} {row : Option Nat} (h : MX P k e g w b n f) (hg : w.grownBy w' row) (hne : some b ≠ row) : MX P k e g w' b n f := by
  obtain ⟨D, h, h2⟩ := h; exact ⟨D, h.kept hg hne, h2⟩
theorem MX.heap {w w' : World} {b n : Nat} {f : α → Int} (h : MX P k e g w b n f) (hh : w'.heap[b]? = w.heap[b]?) : MX P k e g w' b n f := by
  obtain ⟨D, h, h2⟩ := h; exact ⟨D, owns_heap h hh, h2⟩
theorem MX.below {w w' : World} {b n : Nat} {f : α → Int} (h : MX P k e g w b n f) (hb : Below w.heap.size w w') : MX P k e g w' b n f := h.heap (hb.block b h.lt)
theorem MX.lay {w X : World} {b n : Nat} {f : α → Int} (h : MX P k e g w b n f) (hx : X.heap = w.heap) (o : Obj) : MX P k e g (X.alloc o) b n f := by
  have h1 : MX P k e g X b n f := h.heap (by rw [hx])
  exact h1.heap (Below.heap_alloc _ _ _ h1.lt)
theorem MX.ext {w : World} {b n : Nat} {f f' : α → Int} (h : MX P k e g w b n f) (he : ∀ x, f x = f' x) : MX P k e g w b n f' := by
  have : f = f' := funext he
  rwa [← this]
theorem MX.mono {w : World} {b n n' : Nat} {f : α → Int} (h : MX P k e g w b n f) (hn : n ≤ n') : MX P k e g w b n' f := by
  obtain ⟨D, h, h2⟩ := h; exact ⟨D, h.mono hn, h2⟩
theorem MX.store {w : World} {b n : Nat} {f f' : α → Int} (h : MX P k e g w b n f) {t : TypeId} (K : Keyed P k) (ht : P.underlying t = some (.map k e)) (he : P.underlying e = some (.int .i64)) (hn : n < maxLen) (x : α) {kl : Lit} (hkey : keyOf P k (g x) = some kl) (c : Int) (hc : (Lit.int .i64 c).wf = true) (hc0 : c ≠ 0)
    (hsame : ∀ y, g y = g x → f' y = c) (hother : ∀ y, g y ≠ g x → f' y = f y) :
    ∃ w', (Instr.mapUpdate t (.map (some b)) (g x) (.int .i64 c)).run P w = .ok () w' ∧ MX P k e g w' b (n + 1) f' ∧ w.grownBy w' (some b) := by
  obtain ⟨D, h, h2⟩ := h
  obtain ⟨w', hr, ho, hg⟩ := h.update K ht hn hkey (plainElem_int he hc)
  refine ⟨w', hr, ⟨_, ho, fun y ky hky => ?_⟩, hg⟩
  by_cases e1 : g y = g x
  · have : ky = kl := by rw [e1, hkey] at hky; exact (Option.some.inj hky).symm
    subst this
    rw [has_put_same h.isMap (K.key hkey), atKey_put_same h.isMap (K.key hkey), hsame y e1]
    exact ⟨rfl, by simp [hc0]⟩
  · have hkn : ky ≠ kl := fun e2 => e1 (K.inj (by rw [hky, e2]) hkey)
    rw [has_put_other hkn, atKey_put_other hkn, hother y e1]
    exact h2 y ky hky
theorem MX.entry {w : World} {b n : Nat} {f : α → Int} (h : MX P k e g w b n f) {t : TypeId} (K : Keyed P k) (ht : P.underlying t = some (.map k e)) (he : P.underlying e = some (.int .i64)) (hz : ∀ u : World, (zeroValue e).run P u = .ok (.int .i64 0) u) (hn : n < maxLen) (x : α) {kl : Lit} (hkey : keyOf P k (g x) = some kl)
    (hinj : ∀ y, g y = g x → f y = f x) (hw : (Lit.int .i64 (f x)).wf = true) :
    ∃ st w1, (Instr.mapEntry t (.map (some b)) (g x)).run P w = .ok (.tuple #[.int .i64 (f x), goInt st]) w1 ∧ MI P k e g w1 b (n + 1) f ∧ w.grownBy w1 (some b) ∧
      ∀ (w2 : World) (c : Int) (f' : α → Int), w2.heap[b]? = w1.heap[b]? → (Lit.int .i64 c).wf = true → c ≠ 0 → (∀ y, g y = g x → f' y = c) → (∀ y, g y ≠ g x → f' y = f y) →
        ∃ w3, (Instr.entryStore t (.map (some b)) (goInt st) (.int .i64 c)).run P w2 = .ok () w3 ∧ MX P k e g w3 b (n + 1) f' ∧ w2.grownBy w3 (some b) := by
  have hlk := h.int.look K ht he (hz w) x hkey
  have hst0 := fun c hc f' h1 h2 => h.int.store K ht he hn x hkey c hc (f' := f') h1 h2
  have hst := fun c hc hc0 f' h1 h2 => h.store K ht he hn x hkey c hc hc0 (f' := f') h1 h2
  obtain ⟨D, ⟨es, clock, hb, F, _⟩, _⟩ := h
  obtain ⟨v0, st, w1, es1, c1, r1, r2, r3, r4, r5⟩ := entry_upd K ht hz hb F hkey
  rw [hlk] at r4
  obtain rfl : v0 = .int .i64 (f x) := by simpa using r4.symm
  obtain ⟨w', h1, h2, h3⟩ := hst0 (f x) hw f hinj (fun _ _ => rfl)
  rw [r3] at h1
  obtain rfl : w1 = w' := by simpa using h1
  refine ⟨st, w1, r1, h2, h3, fun w2 c f' hh hc hc0 hs ho => ?_⟩
  rw [r2] at hh
  obtain ⟨es', c', q1, q2⟩ := r5 w2 (.int .i64 c) hh
  obtain ⟨w3, q3, q4, q5⟩ := hst c hc hc0 f' hs ho
  rw [q2] at q3
  obtain rfl : setBlock w b (.map es' c') = w3 := by simpa using q3
  exact ⟨_, q1, q4.heap (by rw [heap_setBlock_same hh, heap_setBlock_same hb]), ⟨rfl, rfl, rfl, by simp [setBlock], fun i _ hi => heap_setBlock_other hh _ (fun e1 => hi (by rw [e1]))⟩⟩
/-- As a map with a place for no entry. -/
theorem MX.opt {w : World} {b n : Nat} {f : α → Int} (h : MX P k e g w b n f) : MO P k e g w b n (fun x => if f x = 0 then none else some (f x)) := by
  obtain ⟨D, h, h2⟩ := h
  refine ⟨D, h, fun x kl hk => ?_⟩
  obtain ⟨h3, h4⟩ := h2 x kl hk
  rw [h3, h4]
  by_cases h0 : f x = 0
  · simp [h0]
  · simp [h0]
end Go.Proofs.Ytmgkpabagpgilaa.Mp
