/-
  Contracts of the document's own Less, Put, Sort, SameEdges on lists of edges. Not a statement of the seat.
-/
import Derived.Test.YtjknnbeemcpppaaDoorPkMath
import Derived.Test.YtjknnbeemcpppaaDoorPkRef
import Derived.Test.YtjknnbeemcpppaaDoorPkLivesA
namespace Go.Proofs.YtjknnbeemcpppaaDoor.Pk
open Go.ChangeShapes Go.WideShapes Go.ChangeAt Go.RowKit Base Go.Shelf Go.Lib Go.Sort
abbrev zE : E := (0, 0, 0, 0)
/-- The slice v holds the edges xs. -/
def Eds (w : World) (v : Value) (xs : List E) : Prop :=
  ((∃ p c, v = .slice p 0 c) ∧ xs = []) ∨ ∃ g o c, v = .slice (some ⟨g, o, none⟩) xs.length c ∧ g < w.heap.size ∧ xs.length ≤ 9223372036854775807 ∧ ∀ k, k < xs.length →
    w.cell? ⟨g, o + k * 4, none⟩ = some (.int .i64 (xs.getD k zE).1) ∧ w.cell? ⟨g, o + k * 4 + 1, none⟩ = some (.int .i64 (xs.getD k zE).2.1) ∧ w.cell? ⟨g, o + k * 4 + 2, none⟩ = some (.int .i64 (xs.getD k zE).2.2.1) ∧ w.cell? ⟨g, o + k * 4 + 3, none⟩ = some (.int .i64 (xs.getD k zE).2.2.2)
theorem Eds.below {w w1 : World} {v : Value} {xs : List E} (h : Eds w v xs) (hb : Below w.heap.size w w1) : Eds w1 v xs := by
  rcases h with h | ⟨g, o, c, hv, h1, h2, h3⟩
  · exact .inl h
  · refine .inr ⟨g, o, c, hv, Nat.lt_of_lt_of_le h1 hb.size, h2, fun k hk => ?_⟩
    obtain ⟨a, b, c, d⟩ := h3 k hk
    exact ⟨(hb.cell (p := ⟨g, _, none⟩) h1).trans a, (hb.cell (p := ⟨g, _, none⟩) h1).trans b, (hb.cell (p := ⟨g, _, none⟩) h1).trans c, (hb.cell (p := ⟨g, _, none⟩) h1).trans d⟩
theorem Eds.open_ {w : World} {v : Value} {xs : List E} (h : Eds w v xs) : ∃ p c, v = .slice p xs.length c ∧ xs.length ≤ 9223372036854775807 ∧ ∀ k, k < xs.length → ∃ g o, p = some ⟨g, o, none⟩ ∧ g < w.heap.size ∧
    w.cell? ⟨g, o + k * 4, none⟩ = some (.int .i64 (xs.getD k zE).1) ∧ w.cell? ⟨g, o + k * 4 + 1, none⟩ = some (.int .i64 (xs.getD k zE).2.1) ∧ w.cell? ⟨g, o + k * 4 + 2, none⟩ = some (.int .i64 (xs.getD k zE).2.2.1) ∧ w.cell? ⟨g, o + k * 4 + 3, none⟩ = some (.int .i64 (xs.getD k zE).2.2.2) := by
  rcases h with ⟨⟨p, c, hv⟩, rfl⟩ | ⟨g, o, c, hv, h1, h2, h3⟩
  · exact ⟨p, c, hv, by simp, fun k hk => absurd hk (by simp)⟩
  · exact ⟨_, c, hv, h2, fun k hk => ⟨g, o, rfl, h1, h3 k hk⟩⟩
theorem flat_get : ∀ (zs : List E) (k j : Nat), k < zs.length → j < 4 → (zs.flatMap encE)[k * 4 + j]? = (encE (zs.getD k zE))[j]?
  | x :: zs, 0, j, _, hj => by
    rw [List.flatMap_cons, List.getElem?_append_left (by simp [encE]; omega)]
    simp
  | x :: zs, k + 1, j, hk, hj => by
    rw [List.flatMap_cons, List.getElem?_append_right (by simp [encE]; omega), show (k + 1) * 4 + j - (encE x).length = k * 4 + j by simp [encE]; omega, flat_get zs k j (by simpa using hk) hj]
    rfl
theorem flat_len (zs : List E) : (zs.flatMap encE).length = zs.length * 4 := by
  induction zs with
  | nil => rfl
  | cons x zs ih => rw [List.flatMap_cons, List.length_append, ih]; simp [encE]; omega
/-- The slice v, which the call made itself from block B on, holds the edges zs. -/
def OwnE (B : Nat) (w : World) (v : Value) (zs : List E) : Prop := w.ownsRow B 32 4 v zs.length (zs.flatMap encE)
theorem OwnE.nil (B : Nat) (w : World) : OwnE B w (.slice none 0 0) [] := World.ownsRow_nil _ _ _ _
theorem OwnE.eds {B : Nat} {w : World} {v : Value} {zs : List E} (h : OwnE B w v zs) (hl : zs.length ≤ 9223372036854775807) : Eds w v zs := by
  have h' := h
  rcases h.2 with ⟨hv, h0⟩ | ⟨g, cap, cur, hv, _, h2, _⟩
  · exact .inl ⟨⟨_, _, hv⟩, List.length_eq_zero_iff.1 h0⟩
  · subst hv
    have hc : ∀ k j, k < zs.length → j < 4 → w.cell? ⟨g, 0 + k * 4 + j, none⟩ = (encE (zs.getD k zE))[j]? := fun k j hk hj => by
      rw [Nat.zero_add, ← flat_get zs k j hk hj]
      exact World.ownsRow.cellAt h' (k * 4 + j) (by omega)
    exact .inr ⟨g, 0, cap, rfl, heap_lt h2, hl, fun k hk => ⟨hc k 0 hk (by omega), hc k 1 hk (by omega), hc k 2 hk (by omega), hc k 3 hk (by omega)⟩⟩
theorem OwnE.below {B : Nat} {w w1 : World} {v : Value} {zs : List E} (h : OwnE B w v zs) (hb : Below w.heap.size w w1) : OwnE B w1 v zs :=
  World.ownsRow.kept h (row := none) ⟨hb.os, hb.tape, hb.output, hb.size, fun k hk _ => hb.block k hk⟩ (by cases v.ownBlock <;> simp)
theorem own_base {w : World} {base : Nat} {e : TypeId} {size n : Nat} {v : Value} {xs : List Value} (h : w.ownsRow base e size v n xs) : ∀ k, v.ownBlock = some k → base ≤ k := fun k hk => (h.lt k hk).1
/-- An edge is put behind a slice of the call's own. -/
theorem append_edge {ops : Array Oper} {rest : List Oper} {o : Oper} {a : Act} {Q : Exit → Act → World → Prop} (hgd : o.guard = none) (s x : Operand)
    (ho : o.op = .call { callee := .builtin .append, args := #[s, x], argTypes := #[22, 22] }) {w0 w : World} {v : Value} {zs : List E} {z : E}
    (hb : Below w0.heap.size w0 w) (hown : OwnE w0.heap.size w v zs) {g : Nat} (hs : a.eval s = v) (hx : a.eval x = .slice (some ⟨g, 0, none⟩) 1 1) (hg : g = w.heap.size) (hl : zs.length ≤ 1000000)
    (h : ∀ v' w', OwnE w0.heap.size w' v' (zs ++ [z]) → Below w0.heap.size w0 w' → (∀ i o', w.heap[i]? = some o' → v.ownBlock ≠ some i → w'.heap[i]? = some o') → wpList Tryd.prog ops Q rest (a.put o.dst v') w') :
    wpList Tryd.prog ops Q (o :: rest) a (w.alloc (.cells #[.int .i64 z.1, .int .i64 z.2.1, .int .i64 z.2.2.1, .int .i64 z.2.2.2] 32)) := by
  subst hg
  obtain ⟨i0, hi, hz0, hz1, hz2⟩ := info_parts info
  have hz := hb.size
  refine wpList_append_own _ hgd s x 22 ho w0.heap.size 32 i0 (.agg #[.int .i64 0, .int .i64 0, .int .i64 0, .int .i64 0]) 4 32 Tryd.underlying22 hi hz0 hz1 hz2 rfl (by decide) v zs.length (zs.flatMap encE) hs (hown.alloc _) ⟨w.heap.size, 0, none⟩ 1 1 (encE z) hx rfl ?_ ?_ (by simp only [maxLen]; omega) (by omega) (by simp; omega) ?_
  · intro t u hu
    match t, hu with
    | 0, hu => simp [encE] at hu; subst hu; simp [Addr.add]
    | 1, hu => simp [encE] at hu; subst hu; simp [Addr.add]
    | 2, hu => simp [encE] at hu; subst hu; simp [Addr.add]
    | 3, hu => simp [encE] at hu; subst hu; simp [Addr.add]
    | t + 4, hu => simp [encE] at hu
  · intro u hu
    simp [encE] at hu
    rcases hu with rfl | rfl | rfl | rfl <;> rfl
  · intro v' w' hown' hg _
    refine h v' w' ?_ ((hb.alloc hz _).grown hg (by simp; omega) (own_base hown)) fun i o' hi' hne => ?_
    · unfold OwnE
      rw [List.length_append, List.flatMap_append]
      simpa using hown'
    · have h1 : (w.alloc (.cells #[.int .i64 z.1, .int .i64 z.2.1, .int .i64 z.2.2.1, .int .i64 z.2.2.2] 32)).heap[i]? = some o' := heap_alloc_lt _ _ _ _ hi'
      exact (hg.block i (heap_lt h1) (fun e => hne e.symm)).trans h1
/-- What a call that tells a new list of edges leaves. -/
def EdsNew (xs : List E) (w : World) (e : Ending) (w' : World) : Prop := (∃ v, e = .returned v ∧ Eds w' v xs) ∧ Below w.heap.size w w'
set_option maxHeartbeats 1000000 in
theorem less_ref (x y : E) (w : World) : Calls Tryd.prog 25 #[.agg #[.int .i64 x.1, .int .i64 x.2.1, .int .i64 x.2.2.1, .int .i64 x.2.2.2], .agg #[.int .i64 y.1, .int .i64 y.2.1, .int .i64 y.2.2.1, .int .i64 y.2.2.2]] w fun e w' => e = .returned (.bool (ltE x y)) ∧ Below w.heap.size w w' := by
  obtain ⟨f, t, k, y1⟩ := x
  obtain ⟨f', t', k', y2⟩ := y
  have HL : Hid (ltE (f, t, k, y1) (f', t', k', y2) = decide (f < f' ∨ f = f' ∧ (k < k' ∨ k = k' ∧ (y1 < y2 ∨ y1 = y2 ∧ t < t')))) := Lib.hid rfl
  have hb : ∀ B : World, Below B.heap.size B ((B.alloc (.cells #[.int .i64 f, .int .i64 t, .int .i64 k, .int .i64 y1] 32)).alloc (.cells #[.int .i64 f', .int .i64 t', .int .i64 k', .int .i64 y2] 32)) := fun B => ((Below.refl _ B).alloc (Nat.le_refl _) _).alloc (by simp) _
  have HB := Lib.hid hb
  clear hb
  generalize ltE (f, t, k, y1) (f', t', k', y2) = r at HL ⊢
  by_cases h0 : f = f'
  · have d0 : (f != f') = false := by rw [bne_eq_false_iff_eq]; exact h0
    by_cases h1 : k = k'
    · have d1 : (k != k') = false := by rw [bne_eq_false_iff_eq]; exact h1
      by_cases h2 : y1 = y2
      · have d2 : (y1 != y2) = false := by rw [bne_eq_false_iff_eq]; exact h2
        have HR : Hid (decide (t < t') = r) := Lib.hid (by rw [HL.out]; congr 1; simp only [eq_iff_iff]; omega)
        clear h0 h1 h2 HL
        go_enter Tryd.func25, Tryd.ntmps25
        go_wp2
        go_ret
        exact ⟨ret_bool HR.out, HB.out w⟩
      · have d2 : (y1 != y2) = true := by rw [bne_iff_ne]; exact h2
        have HR : Hid (decide (y1 < y2) = r) := Lib.hid (by rw [HL.out]; congr 1; simp only [eq_iff_iff]; omega)
        clear h0 h1 h2 HL
        go_enter Tryd.func25, Tryd.ntmps25
        go_wp2
        go_ret
        exact ⟨ret_bool HR.out, HB.out w⟩
    · have d1 : (k != k') = true := by rw [bne_iff_ne]; exact h1
      have HR : Hid (decide (k < k') = r) := Lib.hid (by rw [HL.out]; congr 1; simp only [eq_iff_iff]; omega)
      clear h0 h1 HL
      go_enter Tryd.func25, Tryd.ntmps25
      go_wp2
      go_ret
      exact ⟨ret_bool HR.out, HB.out w⟩
  · have d0 : (f != f') = true := by rw [bne_iff_ne]; exact h0
    have HR : Hid (decide (f < f') = r) := Lib.hid (by rw [HL.out]; congr 1; simp only [eq_iff_iff]; omega)
    clear h0 HL
    go_enter Tryd.func25, Tryd.ntmps25
    go_wp2
    go_ret
    exact ⟨ret_bool HR.out, HB.out w⟩
end Go.Proofs.YtjknnbeemcpppaaDoor.Pk
