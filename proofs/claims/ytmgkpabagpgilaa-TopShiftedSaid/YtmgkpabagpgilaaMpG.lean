/-
  Maps of the call's own from ints to lists of ints of the call's own, told by a plain function. Not a statement of the seat.
-/
import Derived.Test.YtmgkpabagpgilaaMp
import Derived.Test.YtmgkpabagpgilaaLstAp
import Derived.Maps.GroupsBeside
import Derived.Maps.Views
namespace Go.Proofs.Ytmgkpabagpgilaa.Mp
open Go.ChangeShapes Go.WideShapes Go.ChangeAt Go.RowKit Go.Maps Base Lst
/-- What a list is in a map's datum. -/
def gD (l : List Int) : DataW Unit := if l = [] then .nil else .slice (lits .i64 l) []
theorem lits_inj {l m : List Int} (h : lits (H := Unit) .i64 l = lits .i64 m) : l = m := by
  unfold lits at h
  exact (List.map_inj_right (fun a b hab => by injection hab with h1; injection h1)).1 h
def addK (y : Int) (ks : List Int) : List Int := if y ∈ ks then ks else ks ++ [y]
/-- Block b is a map: its keys are ks; at the key x it holds the list f x, in a row from base on. -/
def MG (P : Program) (k e : TypeId) (w : World) (base b n : Nat) (ks : List Int) (f : Int → List Int) : Prop :=
  ∃ D : DataW Unit, w.ownsGroups P k base e .i64 b n D ∧ Tidy D ∧ Maps.size D = ks.length ∧ ∀ x kl, keyOf P k (.int .i64 x) = some kl → has D kl = decide (x ∈ ks) ∧ D.atKey kl .nil = gD (f x)
variable {P : Program} {k e : TypeId} {w : World} {base b n : Nat} {ks : List Int} {f : Int → List Int}
theorem MG.made (P : Program) (k e : TypeId) (w : World) : MG P k e (w.alloc (.map #[] 0)) (w.heap.size + 1) w.heap.size 0 [] (fun _ => []) :=
  ⟨_, World.ownsGroups_made w P k e .i64, tidy_empty, rfl, fun _ _ _ => ⟨by simp [has_eq], by simp [gD, DataW.atKey]⟩⟩
theorem MG.lt (h : MG P k e w base b n ks f) : b < w.heap.size ∧ b < base := by
  obtain ⟨D, ⟨es, clock, hb, _, _, _, hbb, _⟩, _⟩ := h
  exact ⟨heap_lt hb, hbb⟩
theorem MG.below {w' : World} (h : MG P k e w base b n ks f) (hb : Below w.heap.size w w') : MG P k e w' base b n ks f := by
  obtain ⟨D, h1, h2⟩ := h
  exact ⟨D, h1.kept (row := none) ⟨hb.os, hb.tape, hb.output, hb.size, fun i hi _ => hb.block i hi⟩ (by simp) (fun _ _ _ x _ => by cases hx : x.val.ownBlock with | none => exact .inl rfl | some g => exact .inr (by simp)), h2⟩
theorem MG.lay {X : World} (h : MG P k e w base b n ks f) (hx : X.heap = w.heap) (hx2 : X.os = w.os ∧ X.tape = w.tape ∧ X.output = w.output) (o : Obj) : MG P k e (X.alloc o) base b n ks f :=
  h.below (Below.alloc ⟨hx2.1, hx2.2.1, hx2.2.2, by rw [hx]; exact Nat.le_refl _, fun i _ => by rw [hx]⟩ (by rw [hx]; exact Nat.le_refl _) o)
theorem MG.ext {ks' : List Int} {f' : Int → List Int} (h : MG P k e w base b n ks f) (h1 : ks = ks') (h2 : ∀ x, f x = f' x) : MG P k e w base b n ks' f' := by
  have : f = f' := funext h2
  rw [← h1, ← this]; exact h
/-- The way back of a store. -/
def GB (P : Program) (t k e : TypeId) (w : World) (base b n : Nat) (ks : List Int) (f : Int → List Int) (y : Int) (u : Value) : Prop :=
  ∀ (w1 : World) (v' : Value) (zs' : List Int), w.grownBy w1 u.ownBlock → w1.ownsRow base e 1 v' zs'.length (zs'.map (Value.int .i64)) → (∀ z ∈ zs', (Lit.int .i64 z).wf = true) → zs' ≠ [] → zs'.length ≤ n + 1 → (v'.ownBlock = u.ownBlock ∨ ∃ g, v'.ownBlock = some g ∧ w.heap.size ≤ g) →
    ∃ w2, (Instr.mapUpdate t (.map (some b)) (.int .i64 y) v').run P w1 = .ok () w2 ∧ MG P k e w2 base b (n + 1) (addK y ks) (fun x => if x = y then zs' else f x) ∧ w1.grownBy w2 (some b) ∧
      ∀ No : Nat → Prop, w.Shuns b No → (∀ g, v'.ownBlock = some g → ¬ No g) → w2.Shuns b No
/-- What the groups shun, the slice at a key shuns. -/
theorem shun_at {D : DataW Unit} (hown : w.ownsGroups P k base e .i64 b n D) {t E : TypeId} (K : Keyed P k) (ht : P.underlying t = some (.map k E)) (hz : (zeroValue E).run P w = .ok (.slice none 0 0) w) {key v : Value} {kl : Lit} (hkey : keyOf P k key = some kl) (hrun : (Instr.lookup t (.map (some b)) key false).run P w = .ok v w) :
    ∀ No : Nat → Prop, w.Shuns b No → ∀ g, v.ownBlock = some g → ¬ No g := by
  obtain ⟨es, clock, hb, F, _⟩ := hown
  rcases Maps.fit_look false K ht hz hb F hkey with ⟨hrun', _, _⟩ | ⟨e0, y, hm0, _, hrun', _, _, _⟩
  · rw [hrun] at hrun'
    obtain rfl : v = .slice none 0 0 := by simpa using hrun'
    intro _ _ g hg'
    cases hg'
  · rw [hrun] at hrun'
    obtain rfl : v = e0.val := by simpa using hrun'
    exact fun No hs g hg' => hs es clock hb e0 hm0 g hg'
/-- What they shunned they shun behind a store. -/
theorem shun_back {D : DataW Unit} (hown : w.ownsGroups P k base e .i64 b n D) (hn : n < maxLen) {t E : TypeId} (K : Keyed P k) (ht : P.underlying t = some (.map k E)) {key u v' : Value} {kl : Lit} (hkey : keyOf P k key = some kl) (hub : ∀ g, u.ownBlock = some g → base ≤ g) {w1 w2 : World} (hg : w.grownBy w1 u.ownBlock)
    (hrun : (Instr.mapUpdate t (.map (some b)) key v').run P w1 = .ok () w2) {No : Nat → Prop} (hsh : w.Shuns b No) (hno : ∀ g, v'.ownBlock = some g → ¬ No g) : w2.Shuns b No := by
  obtain ⟨es, clock, hb, F, hs, _, hbb, _⟩ := hown
  have hb1 : w1.heap[b]? = some (.map es clock) := (hg.block b (heap_lt hb) (fun e1 => by have := hub b e1.symm; omega)).trans hb
  obtain ⟨es', clock', hb2, hwho⟩ := stored_who K ht hb1 F (Nat.lt_of_le_of_lt hs hn) hkey hrun
  intro es2 clock2 hb2' y hy g hyg
  obtain ⟨rfl, rfl⟩ : es' = es2 ∧ clock' = clock2 := by rw [hb2] at hb2'; simpa using hb2'
  rcases hwho y hy with ⟨hy0, _⟩ | ⟨_, hval⟩
  · exact hsh es clock hb y hy0 g hyg
  · exact hno g (hval ▸ hyg)
theorem MG.shuns (h : MG P k e w base b n ks f) : w.Shuns b (fun g => w.heap.size ≤ g) := by
  obtain ⟨D, h1, _⟩ := h
  exact World.Shuns.reno (No := fun _ => False) (fun _ _ _ _ _ _ _ hf => hf) h1 (fun g hg => .inr hg)
theorem shuns_mono {No No' : Nat → Prop} (h : w.Shuns b No) (hm : ∀ g, No' g → No g) : w.Shuns b No' := fun es clock hb x hx g hg hN => h es clock hb x hx g hg (hm g hN)
theorem shuns_below {w' : World} {No : Nat → Prop} (h : w.Shuns b No) (hb : Below w.heap.size w w') (hlt : b < w.heap.size) : w'.Shuns b No := h.kept (row := none) ⟨hb.os, hb.tape, hb.output, hb.size, fun i hi _ => hb.block i hi⟩ hlt (by simp)
theorem gD_row {v : Value} {zs : List Int} {l : List Int} (h : w.ownsInts base e .i64 v zs) (hd : gD l = rowDatum .i64 v zs) : zs = l := by
  rcases h.datum (H := Unit) with ⟨h1, h2⟩ | h1
  · rw [h1] at hd
    unfold gD at hd
    split at hd
    · rename_i hl; rw [h2, hl]
    · cases hd
  · rw [h1] at hd
    unfold gD at hd
    split at hd
    · cases hd
    · injection hd with hd; exact (lits_inj hd).symm
/-- m[k]: the list, and the way back. -/
theorem MG.at_ (h : MG P k e w base b n ks f) {t E : TypeId} (hk : P.underlying k = some (.int .i64)) (ht : P.underlying t = some (.map k E)) (hz : (zeroValue E).run P w = .ok (.slice none 0 0) w) (hn : n < maxLen) (y : Int) (hy : -9223372036854775808 ≤ y ∧ y ≤ 9223372036854775807) :
    ∃ v, (Instr.lookup t (.map (some b)) (.int .i64 y) false).run P w = .ok v w ∧ w.ownsRow base e 1 v (f y).length ((f y).map (Value.int .i64)) ∧ (∀ z ∈ f y, (Lit.int .i64 z).wf = true) ∧ (f y).length ≤ n ∧ GB P t k e w base b n ks f y v ∧ ∀ No : Nat → Prop, w.Shuns b No → ∀ g, v.ownBlock = some g → ¬ No g := by
  obtain ⟨D, h1, h2, h3, h4⟩ := h
  have K := int_keyed hk
  have hkey := key_int hk hy
  obtain ⟨h5, h6⟩ := h4 y _ hkey
  obtain ⟨v, zs, hrun, hat, hoi, hzl, hback⟩ := h1.at K ht hz hn hkey
  rw [h6] at hat
  obtain rfl := gD_row hoi hat
  refine ⟨v, hrun, hoi.1, hoi.2, hzl, fun w1 v' zs' q1 q2 q3 q4 q5 q6 => ?_, shun_at h1 K ht hz hkey hrun⟩
  obtain ⟨w2, r1, r2, r3⟩ := hback w1 v' zs' q1 ⟨q2, q3⟩ q5 q6
  have hdat : rowDatum (H := Unit) .i64 v' zs' = gD zs' := by
    rw [World.ownsInts.datum_pos (w := w1) (base := base) (e := e) ⟨q2, q3⟩ q4]
    unfold gD
    rw [if_neg q4]
  refine ⟨w2, r1, ⟨_, r2, h2.put (K.key hkey) _, ?_, fun x kl hx => ?_⟩, r3, fun No hs hno => shun_back h1 hn K ht hkey (fun g hg => (hoi.1.lt g hg).1) q1 r1 hs hno⟩
  · rw [size_put h2, h5, h3]
    unfold addK
    by_cases hm : y ∈ ks
    · rw [decide_eq_true hm, if_pos rfl, if_pos hm]
    · rw [decide_eq_false hm, if_neg (by decide), if_neg hm, List.length_append]; rfl
  · by_cases hxy : x = y
    · subst hxy
      obtain rfl : kl = .int .i64 x := by rw [hkey] at hx; exact (Option.some.inj hx).symm
      refine ⟨?_, ?_⟩
      · rw [has_put_same h2.isMap (K.key hkey)]
        have : x ∈ addK x ks := by unfold addK; split; assumption; simp
        exact (decide_eq_true this).symm
      · rw [atKey_put_same h2.isMap (K.key hkey), hdat]
        show gD zs' = gD (if x = x then zs' else f x)
        rw [if_pos rfl]
    · have hkn : kl ≠ .int .i64 y := fun e1 => hxy (by
        have := K.inj (by rw [hx, e1]) hkey
        injection this)
      obtain ⟨h7, h8⟩ := h4 x kl hx
      refine ⟨?_, ?_⟩
      · rw [has_put_other hkn, h7]
        have : x ∈ ks ↔ x ∈ addK y ks := by
          unfold addK
          split
          · exact Iff.rfl
          · simp [hxy]
        by_cases hm : x ∈ ks
        · rw [decide_eq_true hm, decide_eq_true (this.1 hm)]
        · rw [decide_eq_false hm, decide_eq_false (fun e1 => hm (this.2 e1))]
      · rw [atKey_put_other hkn, h8]
        show gD (f x) = gD (if x = y then zs' else f x)
        rw [if_neg hxy]
theorem MG.len (h : MG P k e w base b n ks f) {t E : TypeId} (ht : P.underlying t = some (.map k E)) (ty : TypeId) : (Builtin.len_ #[t] ty #[.map (some b)]).run P w = .ok (.int .i64 (ks.length : Nat)) w := by
  obtain ⟨D, ⟨es, clock, hb, F, _, rfl, _⟩, _, h3, _⟩ := h
  have e1 : Maps.size (H := Unit) (DataW.map ((es.toList.map (WideElems.rg P k (rowElem w base e .i64))).foldr DataW.insert [])) = es.size := by simp [Maps.size, length_sorted]
  rw [← h3, e1]
  simp [Builtin.len_, run_underlying ht, MapKept.run_getObj_map hb, goInt, Result.andThen]
section
variable {ops : Array Oper} {rest : List Oper} {o : Oper} {a : Act} {Q : Exit → Act → World → Prop} {t E : TypeId}
/-- m[k] at the operation. -/
theorem wp_lookG (hk : P.underlying k = some (.int .i64)) (ht : P.underlying t = some (.map k E)) (hz : ∀ w, (zeroValue E).run P w = .ok (.slice none 0 0) w) (hgd : o.guard = none) (m x : Operand) (hop : o.op = Op.lookup t m x false) (h : MG P k e w base b n ks f) (hn : n < maxLen)
    (hm : a.eval m = .map (some b)) (y : Int) (hx : a.eval x = .int .i64 y) (hy : -9223372036854775808 ≤ y ∧ y ≤ 9223372036854775807)
    (hK : ∀ v, w.ownsRow base e 1 v (f y).length ((f y).map (Value.int .i64)) → (∀ z ∈ f y, (Lit.int .i64 z).wf = true) → (f y).length ≤ n → GB P t k e w base b n ks f y v → (∀ No : Nat → Prop, w.Shuns b No → ∀ g, v.ownBlock = some g → ¬ No g) → wpList P ops Q rest (a.put o.dst v) w) : wpList P ops Q (o :: rest) a w := by
  refine wpList_plain hgd fun K' hK' => ?_
  obtain ⟨v, h1, h2, h3, h4, h5, h6⟩ := h.at_ hk ht (hz w) hn y hy
  unfold Oper.wp
  simp [execOp, hop, hm, hx, h1, Result.andThen]
  exact hK' _ _ (hK v h2 h3 h4 h5 h6)
/-- m[k] = v at the operation, by the way back. -/
theorem wp_storeG (hgd : o.guard = none) (m x v : Operand) (hop : o.op = Op.mapUpdate t m x v) {w0 : World} {y : Int} {u v' : Value} {zs' : List Int} (h : GB P t k e w0 base b n ks f y u) (hm : a.eval m = .map (some b)) (hx : a.eval x = .int .i64 y) (hv : a.eval v = v')
    (hg : w0.grownBy w u.ownBlock) (ho : w.ownsRow base e 1 v' zs'.length (zs'.map (Value.int .i64))) (hw : ∀ z ∈ zs', (Lit.int .i64 z).wf = true) (hne : zs' ≠ []) (hl : zs'.length ≤ n + 1) (hloc : v'.ownBlock = u.ownBlock ∨ ∃ g, v'.ownBlock = some g ∧ w0.heap.size ≤ g)
    (hK : ∀ w2, MG P k e w2 base b (n + 1) (addK y ks) (fun x => if x = y then zs' else f x) → w.grownBy w2 (some b) → (∀ No : Nat → Prop, w0.Shuns b No → (∀ g, v'.ownBlock = some g → ¬ No g) → w2.Shuns b No) → wpList P ops Q rest (a.put o.dst undef) w2) : wpList P ops Q (o :: rest) a w := by
  refine wpList_plain hgd fun K' hK' => ?_
  obtain ⟨w2, h1, h2, h3, h4⟩ := h w v' zs' hg ho hw hne hl hloc
  unfold Oper.wp
  simp [execOp, hop, hm, hx, hv, h1, Result.andThen]
  exact hK' _ _ (hK w2 h2 h3 h4)
/-- len(m) at the operation. -/
theorem wp_lenG (ht : P.underlying t = some (.map k E)) (hgd : o.guard = none) (m : Operand) (hop : o.op = Op.call { callee := Callee.builtin Builtin.len, args := #[m], argTypes := #[t] }) (h : MG P k e w base b n ks f) (hm : a.eval m = .map (some b))
    (hK : wpList P ops Q rest (a.put o.dst (.int .i64 (ks.length : Nat))) w) : wpList P ops Q (o :: rest) a w := by
  refine wpList_plain hgd fun K' hK' => ?_
  unfold Oper.wp
  simp [execOp, hop, resolve, invoke, builtin, hm, h.len ht, Result.andThen]
  exact hK' _ _ hK
end
end Go.Proofs.Ytmgkpabagpgilaa.Mp
