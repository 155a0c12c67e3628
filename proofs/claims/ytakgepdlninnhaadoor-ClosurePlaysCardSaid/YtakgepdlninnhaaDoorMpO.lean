/-
  Maps of the call's own to ints, told by a plain function with a place for what is no entry; loops over them. Not a statement of the seat.
-/
import Derived.Test.YtakgepdlninnhaaDoorMp
import Derived.Maps.RangeWalk
namespace Go.Proofs.YtakgepdlninnhaaDoor.Mp
open Go.ChangeShapes Go.WideShapes Go.ChangeAt Go.RowKit Go.Maps Base
variable {α : Type} {P : Program} {k e : TypeId} {g : α → Value}
/-- Block b is a map of at most n entries; at the key g x it holds f x, if that is something. -/
def MO (P : Program) (k e : TypeId) (g : α → Value) (w : World) (b n : Nat) (f : α → Option Int) : Prop :=
  ∃ D : DataW Unit, w.ownsMap P k (plainElem P e) b n D ∧ ∀ x kl, keyOf P k (g x) = some kl → has D kl = (f x).isSome ∧ D.atKey kl (.lit (.int .i64 0)) = .lit (.int .i64 ((f x).getD 0))
theorem MO.made {w : World} {b : Nat} (h : w.heap[b]? = some (.map #[] 0)) : MO P k e g w b 0 (fun _ => none) := ⟨_, ownsMap_at h P k _, fun _ _ _ => ⟨by simp [has_eq], rfl⟩⟩
theorem MO.lt {w : World} {b n : Nat} {f : α → Option Int} (h : MO P k e g w b n f) : b < w.heap.size := by obtain ⟨D, h, _⟩ := h; exact h.lt
theorem MO.kept {w w' : World} {b n : Nat} {f : α → Option Int} {row : Option Nat} (h : MO P k e g w b n f) (hg : w.grownBy w' row) (hne : some b ≠ row) : MO P k e g w' b n f := by
  obtain ⟨D, h, h2⟩ := h; exact ⟨D, h.kept hg hne, h2⟩
theorem MO.heap {w w' : World} {b n : Nat} {f : α → Option Int} (h : MO P k e g w b n f) (hh : w'.heap[b]? = w.heap[b]?) : MO P k e g w' b n f := by
  obtain ⟨D, h, h2⟩ := h; exact ⟨D, owns_heap h hh, h2⟩
theorem MO.below {w w' : World} {b n : Nat} {f : α → Option Int} (h : MO P k e g w b n f) (hb : Below w.heap.size w w') : MO P k e g w' b n f := h.heap (hb.block b h.lt)
theorem MO.lay {w X : World} {b n : Nat} {f : α → Option Int} (h : MO P k e g w b n f) (hx : X.heap = w.heap) (o : Obj) : MO P k e g (X.alloc o) b n f := by
  have h1 : MO P k e g X b n f := h.heap (by rw [hx])
  exact h1.heap (Below.heap_alloc _ _ _ h1.lt)
theorem MO.ext {w : World} {b n : Nat} {f f' : α → Option Int} (h : MO P k e g w b n f) (he : ∀ x, f x = f' x) : MO P k e g w b n f' := by
  have : f = f' := funext he
  rwa [← this]
theorem MO.mono {w : World} {b n n' : Nat} {f : α → Option Int} (h : MO P k e g w b n f) (hn : n ≤ n') : MO P k e g w b n' f := by
  obtain ⟨D, h, h2⟩ := h; exact ⟨D, h.mono hn, h2⟩
/-- v, is := m[k]. -/
theorem MO.look {w : World} {b n : Nat} {f : α → Option Int} (h : MO P k e g w b n f) {t : TypeId} (K : Keyed P k) (ht : P.underlying t = some (.map k e)) (he : P.underlying e = some (.int .i64)) (hz : (zeroValue e).run P w = .ok (.int .i64 0) w) (x : α) {kl : Lit} (hkey : keyOf P k (g x) = some kl) :
    (Instr.lookup t (.map (some b)) (g x) true).run P w = .ok (.tuple #[.int .i64 ((f x).getD 0), .bool (f x).isSome]) w := by
  obtain ⟨D, h, h2⟩ := h
  obtain ⟨v, ps, hr, hv⟩ := h.look_ok K ht hz (plainElem_int he (WalkArith.wf_i64 ⟨by omega, by omega⟩)) hkey
  obtain ⟨c, rfl, hc, _⟩ := plainElem_int_inv he hv
  obtain ⟨h3, h4⟩ := h2 x kl hkey
  rw [h4] at hc
  rw [hr, h3]
  have : (f x).getD 0 = c := by simp at hc; exact hc.1
  rw [this]
/-- m[k] = v. -/
theorem MO.store {w : World} {b n : Nat} {f f' : α → Option Int} (h : MO P k e g w b n f) {t : TypeId} (K : Keyed P k) (ht : P.underlying t = some (.map k e)) (he : P.underlying e = some (.int .i64)) (hn : n < maxLen) (x : α) {kl : Lit} (hkey : keyOf P k (g x) = some kl) (c : Int) (hc : (Lit.int .i64 c).wf = true)
    (hsame : ∀ y, g y = g x → f' y = some c) (hother : ∀ y, g y ≠ g x → f' y = f y) :
    ∃ w', (Instr.mapUpdate t (.map (some b)) (g x) (.int .i64 c)).run P w = .ok () w' ∧ MO P k e g w' b (n + 1) f' ∧ w.grownBy w' (some b) := by
  obtain ⟨D, h, h2⟩ := h
  obtain ⟨w', hr, ho, hg⟩ := h.update K ht hn hkey (plainElem_int he hc)
  refine ⟨w', hr, ⟨_, ho, fun y ky hky => ?_⟩, hg⟩
  by_cases e1 : g y = g x
  · have : ky = kl := by rw [e1, hkey] at hky; exact (Option.some.inj hky).symm
    subst this
    rw [has_put_same h.isMap (K.key hkey), atKey_put_same h.isMap (K.key hkey), hsame y e1]
    exact ⟨rfl, rfl⟩
  · have hkn : ky ≠ kl := fun e2 => e1 (K.inj (by rw [hky, e2]) hkey)
    rw [has_put_other hkn, atKey_put_other hkn, hother y e1]
    exact h2 y ky hky
section
variable {w : World} {ops : Array Oper} {rest : List Oper} {o : Oper} {a : Act} {Q : Exit → Act → World → Prop} {t : TypeId} {b n : Nat}
theorem wp_lookO (K : Keyed P k) (ht : P.underlying t = some (.map k e)) (he : P.underlying e = some (.int .i64)) (hz : ∀ w, (zeroValue e).run P w = .ok (.int .i64 0) w) (hgd : o.guard = none) (m x : Operand) (hop : o.op = Op.lookup t m x true) {f : α → Option Int} (h : MO P k e g w b n f)
    (hm : a.eval m = .map (some b)) (y : α) (hx : a.eval x = g y) {kl : Lit} (hkey : keyOf P k (g y) = some kl) (hK : wpList P ops Q rest (a.put o.dst (.tuple #[.int .i64 ((f y).getD 0), .bool (f y).isSome])) w) : wpList P ops Q (o :: rest) a w := by
  refine wpList_plain hgd fun K' hK' => ?_
  unfold Oper.wp
  simp [execOp, hop, hm, hx, h.look K ht he (hz w) y hkey, Result.andThen]
  exact hK' _ _ hK
theorem wp_storeO (K : Keyed P k) (ht : P.underlying t = some (.map k e)) (he : P.underlying e = some (.int .i64)) (hgd : o.guard = none) (m x v : Operand) (hop : o.op = Op.mapUpdate t m x v) {f : α → Option Int} (h : MO P k e g w b n f) (hn : n < maxLen)
    (hm : a.eval m = .map (some b)) (y : α) (hx : a.eval x = g y) {kl : Lit} (hkey : keyOf P k (g y) = some kl) (c : Int) (hc : (Lit.int .i64 c).wf = true) (hv : a.eval v = .int .i64 c) (f' : α → Option Int) (hsame : ∀ z, g z = g y → f' z = some c) (hother : ∀ z, g z ≠ g y → f' z = f z)
    (hK : ∀ w', MO P k e g w' b (n + 1) f' → w.grownBy w' (some b) → wpList P ops Q rest (a.put o.dst undef) w') : wpList P ops Q (o :: rest) a w := by
  refine wpList_plain hgd fun K' hK' => ?_
  obtain ⟨w', hr, r1, r2⟩ := h.store K ht he hn y hkey c hc hsame hother
  unfold Oper.wp
  simp [execOp, hop, hm, hx, hv, hr, Result.andThen]
  exact hK' _ _ (hK w' r1 r2)
end
/-- A loop over such a map under way: r its iterator, 'left x': whether the entry at x is still to come. -/
def MR (P : Program) (k e : TypeId) (g : α → Value) (w : World) (b r n : Nat) (f : α → Option Int) (left : α → Bool) (cnt : Nat) : Prop :=
  ∃ (D : DataW Unit) (lf : Lit → Bool), w.ranges P k (plainElem P e) b r n D lf cnt ∧ (∀ x kl, keyOf P k (g x) = some kl → has D kl = (f x).isSome ∧ D.atKey kl (.lit (.int .i64 0)) = .lit (.int .i64 ((f x).getD 0)) ∧ lf kl = left x)
section
variable {w w' : World} {b r n cnt : Nat} {f : α → Option Int} {left : α → Bool} {row : Option Nat}
theorem MR.kept (h : MR P k e g w b r n f left cnt) (hg : w.grownBy w' row) (hb : some b ≠ row) (hr : some r ≠ row) : MR P k e g w' b r n f left cnt := by
  obtain ⟨D, lf, h1, h2⟩ := h
  exact ⟨D, lf, h1.kept hg hb hr, h2⟩
theorem MR.map (h : MR P k e g w b r n f left cnt) : MO P k e g w b n f := by
  obtain ⟨D, lf, h1, h2⟩ := h
  exact ⟨D, h1.owns, fun x kl hx => ⟨(h2 x kl hx).1, (h2 x kl hx).2.1⟩⟩
theorem MR.ne (h : MR P k e g w b r n f left cnt) : r ≠ b := by obtain ⟨D, lf, h1, h2⟩ := h; exact h1.ne
theorem MR.lt (h : MR P k e g w b r n f left cnt) : r < w.heap.size := by obtain ⟨D, lf, h1, h2⟩ := h; exact h1.lt
theorem MR.left_eq (h : MR P k e g w b r n f left cnt) : w.rangeLeft b r = cnt := by obtain ⟨D, lf, h1, h2⟩ := h; exact h1.left_eq
end
section
variable {w : World} {ops : Array Oper} {rest : List Oper} {o : Oper} {a : Act} {Q : Exit → Act → World → Prop} {t : TypeId} {b r n cnt : Nat} {f : α → Option Int} {left : α → Bool}
/-- range m. -/
theorem wp_rangeO (K : Keyed P k) (ht : P.underlying t = some (.map k e)) (hgd : o.guard = none) (m : Operand) (hop : o.op = Op.range t m) (h : MO P k e g w b n f) (hm : a.eval m = .map (some b))
    (hK : ∀ w' cnt, cnt ≤ n → MR P k e g w' b w.heap.size n f (fun x => (f x).isSome) cnt → w.grownBy w' none → w'.heap.size = w.heap.size + 1 → wpList P ops Q rest (a.put o.dst (.pointer (some ⟨w.heap.size, 0, none⟩))) w') : wpList P ops Q (o :: rest) a w := by
  obtain ⟨D, h1, h2⟩ := h
  exact wpList_range_own w hgd m t hop k e K ht (plainElem P e) b n D hm h1 fun w' r1 r2 r3 => hK w' _ h1.size_le ⟨D, _, r1, fun x kl hx => ⟨(h2 x kl hx).1, (h2 x kl hx).2, (h2 x kl hx).1⟩⟩ r2 r3
/-- The step. -/
theorem wp_nextO [DecidableEq α] (K : Keyed P k) (he : P.underlying e = some (.int .i64)) (invK : ∀ key kl, keyOf P k key = some kl → ∃ x, key = g x) (hinj : ∀ x y, g x = g y → x = y) (hgd : o.guard = none) (it : Operand) (hop : o.op = Op.next it false)
    (hit : a.eval it = .pointer (some ⟨r, 0, none⟩)) (h : MR P k e g w b r n f left cnt)
    (hDone : (∀ x kl, keyOf P k (g x) = some kl → left x = false) → wpList P ops Q rest (a.put o.dst (.tuple #[.bool false])) w)
    (hMore : ∀ (x : α) (c : Int) (kl : Lit) (w' : World) (cnt' : Nat), keyOf P k (g x) = some kl → left x = true → f x = some c → (Lit.int .i64 c).wf = true → MR P k e g w' b r n f (fun z => left z && !decide (z = x)) cnt' → cnt' < cnt →
      w.grownBy w' (some r) → w'.heap.size = w.heap.size → (Instr.entry (.pointer (some ⟨r, 0, none⟩))).run P w' = .ok (.tuple #[g x, .int .i64 c]) w' → wpList P ops Q rest (a.put o.dst (.tuple #[.bool true, g x, .int .i64 c])) w') : wpList P ops Q (o :: rest) a w := by
  obtain ⟨D, lf, h1, h2⟩ := h
  refine wpList_next_ranges w hgd it hop k K (plainElem P e) g (Value.int .i64) invK (fun v y hv => by obtain ⟨c, rfl, _⟩ := plainElem_int_inv he hv; exact ⟨c, rfl⟩) b r n D lf cnt hit h1 (fun _ hl => hDone fun x kl hx => by rw [← (h2 x kl hx).2.2]; exact hl kl) fun x c kl y w' cnt' hkey hlk hv hat hrg hlt hgr hsz hen => ?_
  obtain ⟨c', ec, rfl, hwc⟩ := plainElem_int_inv he hv
  cases ec
  obtain ⟨q1, q2, q3⟩ := h2 x kl hkey
  have hh : has D kl = true := has_true_of_atKey hat
  have hfc : f x = some c := by
    rw [hat] at q2
    rw [hh] at q1
    cases hf : f x with
    | none => rw [hf] at q1; cases q1
    | some d => rw [hf] at q2; simp at q2; rw [q2]
  refine hMore x c kl w' cnt' hkey (by rw [← q3]; exact hlk) hfc hwc ⟨D, _, hrg, fun z zl hz => ⟨(h2 z zl hz).1, (h2 z zl hz).2.1, ?_⟩⟩ hlt hgr hsz hen
  show (lf zl && !zl.sameKey kl) = _
  rw [(h2 z zl hz).2.2]
  congr 2
  by_cases hzx : z = x
  · subst hzx
    obtain rfl : zl = kl := by rw [hkey] at hz; exact (Option.some.inj hz).symm
    rw [decide_eq_true rfl]
    exact WideAt.sameKey_self (K.key hkey)
  · rw [decide_eq_false hzx]
    exact sameKey_ne (fun e1 => hzx (hinj _ _ (K.inj (by rw [hz, e1]) hkey)))
end
end Go.Proofs.YtakgepdlninnhaaDoor.Mp
