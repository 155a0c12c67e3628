/-
  Slices of the call's own as boxes: what a block holds, how one grows, what stays of the others. Not a statement of the seat.
-/
import Derived.Test.YtpmimngngehmlaaPmSt
import Derived.Test.YtpmimngngehmlaaFDd6
namespace Go.Proofs.Ytpmimngngehmlaa.F
open Go.ChangeShapes Go.WideShapes Go.ChangeAt Go.RowKit Base
/-- The block p holds the slice v of n elements of S cells, whose cells are xs; its block may be longer. -/
def RowB (T : TypeId) (S : Nat) (p : Nat × Obj) (v : Value) (n : Nat) (xs : List Value) : Prop :=
  xs.length = n * S ∧ ∃ cap cur, p.2 = .cells cur T (0, 0) ∧ v = .slice (some ⟨p.1, 0, none⟩) n cap ∧ n ≤ cap ∧ cap ≤ maxLen ∧ cur.size = cap * S ∧ cur.toList.take (n * S) = xs
theorem RowB.own {T : TypeId} {S B : Nat} {p : Nat × Obj} {v : Value} {n : Nat} {xs : List Value} {w : World} (h : RowB T S p v n xs) (hw : w.heap[p.1]? = some p.2) (hB : B ≤ p.1) : w.ownsRow B T S v n xs := by
  obtain ⟨h1, cap, cur, h2, h3, h4, h5, h6, h7⟩ := h
  exact ⟨h1, .inr ⟨p.1, cap, cur, h3, hB, by rw [hw, h2], h4, h5, h6, h7⟩⟩
theorem RowB.of {T : TypeId} {S B : Nat} {v : Value} {n : Nat} {xs : List Value} {w : World} (h : w.ownsRow B T S v n xs) (hn : 0 < n) : ∃ p, RowB T S p v n xs ∧ w.heap[p.1]? = some p.2 ∧ B ≤ p.1 ∧ v.ownBlock = some p.1 := by
  obtain ⟨h1, h⟩ := h
  rcases h with ⟨_, h0⟩ | ⟨g, cap, cur, hv, hB, hg, h2, h3, h4, h5⟩
  · omega
  · exact ⟨(g, .cells cur T (0, 0)), ⟨h1, cap, cur, rfl, hv, h2, h3, h4, h5⟩, hg, hB, by rw [hv]; rfl⟩
theorem RowB.block {T : TypeId} {S : Nat} {p : Nat × Obj} {v : Value} {n : Nat} {xs : List Value} (h : RowB T S p v n xs) : v.ownBlock = some p.1 := by
  obtain ⟨_, cap, cur, _, hv, _⟩ := h
  rw [hv]; rfl
/-- The cells of one element. -/
theorem RowB.open_ {T : TypeId} {S : Nat} {p : Nat × Obj} {v : Value} {n : Nat} {xs : List Value} (h : RowB T S p v n xs) : ∃ g cap, p.1 = g ∧ v = .slice (some ⟨g, 0, none⟩) n cap ∧ n ≤ cap ∧ ∀ w : World, w.heap[p.1]? = some p.2 → g < w.heap.size ∧ ∀ k, k < n * S → w.cell? ⟨g, k, none⟩ = xs[k]? := by
  obtain ⟨h1, cap, cur, h2, h3, h4, h5, h6, h7⟩ := h
  refine ⟨p.1, cap, rfl, h3, h4, fun w hw => ⟨heap_lt hw, fun k hk => ?_⟩⟩
  rw [h2] at hw
  have : n * S ≤ cap * S := Nat.mul_le_mul_right S h4
  have hx : xs[k]? = cur[k]? := by
    rw [← h7, List.getElem?_take, if_pos hk, Array.getElem?_toList]
  rw [hx]
  simp [World.cell?, hw]
/-- One that is typed out. -/
theorem RowB.lit {T : TypeId} {S : Nat} {g : Nat} {xs : List Value} (hl : xs.length = S) : RowB T S (g, .cells xs.toArray T (0, 0)) (.slice (some ⟨g, 0, none⟩) 1 1) 1 xs :=
  ⟨by omega, 1, xs.toArray, rfl, rfl, Nat.le_refl _, by simp [maxLen], by simpa using hl, by rw [List.take_of_length_le (by simp; omega)]⟩
section
variable {w0 w w' : World} {pv : Value} {o : Option Nat} {room : Nat} {zs : List Cel}
/-- A block that has come up since is kept, too. -/
theorem PS.keepNew {wa : World} {bs : List (Nat × Obj)} {g : Nat} {ob : Obj} (h : PS w0 wa pv o room zs (.slice none 0 0) [] bs) (hb : Below wa.heap.size wa w) (hg : w.heap[g]? = some ob) (h0 : wa.heap.size ≤ g) : PS w0 w pv o room zs (.slice none 0 0) [] ((g, ob) :: bs) := by
  have h2 := h.below hb
  refine ⟨h2.1, h2.2.1, fun p hp => ?_⟩
  rcases List.mem_cons.1 hp with rfl | hp
  · exact ⟨hg, fun k => by have := h.1.1.lt g k; omega⟩
  · exact h2.2.2 p hp
/-- A box, whose block has a name. -/
theorem PS.addAt {bs : List (Nat × Obj)} {g : Nat} (h : PS w0 w pv o room zs (.slice none 0 0) [] bs) (ob : Obj) (e : g = w.heap.size) : PS w0 (w.alloc ob) pv o room zs (.slice none 0 0) [] ((g, ob) :: bs) := by
  subst e
  exact h.add ob
/-- A block of the call's own is grown: it is another one, or holds more; all others stay. -/
theorem PS.grow {bs : List (Nat × Obj)} {p p' : Nat × Obj} (h : PS w0 w pv o room zs (.slice none 0 0) [] (p :: bs)) (hn : ∀ q ∈ bs, q.1 ≠ p.1) (h0 : w0.heap.size ≤ p.1) (hg : w.grownBy w' (some p.1)) (hp : w'.heap[p'.1]? = some p'.2) (he : p'.1 = p.1 ∨ p'.1 = w.heap.size) :
    PS w0 w' pv o room zs (.slice none 0 0) [] (p' :: bs) ∧ (∀ q ∈ bs, q.1 ≠ p'.1) ∧ w0.heap.size ≤ p'.1 := by
  obtain ⟨⟨k1, k2, k3⟩, _, k5⟩ := h
  have hp0 := k5 p (List.mem_cons_self ..)
  have hf : Fr (fun k => k = p.1) w w' := Fr.of_grown hg fun k hk => by injection hk with hk; exact hk.symm
  have hs := k2.size
  refine ⟨⟨⟨k1.fr hf (fun k hv e => hp0.2 (e ▸ hv)), ?_, k3⟩, QS.nil _ _ _, fun q hq => ?_⟩, fun q hq => ?_, ?_⟩
  · exact k2.grown hg hs (fun b hb => by injection hb with hb; omega)
  · rcases List.mem_cons.1 hq with rfl | hq
    · refine ⟨hp, ?_⟩
      rcases he with e | e
      · rw [e]; exact hp0.2
      · intro k; have := k1.lt _ k; omega
    · have := k5 q (List.mem_cons_of_mem _ hq)
      exact ⟨(hf.block (heap_lt this.1) (hn q hq)).trans this.1, this.2⟩
  · have := k5 q (List.mem_cons_of_mem _ hq)
    rcases he with e | e
    · rw [e]; exact hn q hq
    · have := heap_lt this.1; omega
  · rcases he with e | e <;> omega
end
/-- One more element is put behind a slice of the call's own. -/
theorem append_row {ops : Array Oper} {rest : List Oper} {oo : Oper} {a : Act} {Q : Exit → Act → World → Prop} (hgd : oo.guard = none) (s x : Operand) {T L : TypeId} {S bytes : Nat} {i0 : TypeInfo} {z : Value}
    (ho : oo.op = .call { callee := .builtin .append, args := #[s, x], argTypes := #[L, L] })
    (hL : Try.prog.underlying L = some (.slice T)) (hi : Try.prog.info? T = some i0) (hz : i0.zero = some z) (hs1 : i0.size = S) (hby : i0.bytes = bytes) (hzs : z.cells.size = S) (hS : 0 < S) (hbytes : bytes ≤ 1000)
    {w : World} {v : Value} {p : Nat × Obj} {n : Nat} {xs ys : List Value} {g' c : Nat} (h : RowB T S p v n xs) (hp : w.heap[p.1]? = some p.2) (hs : a.eval s = v) (hx : a.eval x = .slice (some ⟨g', 0, none⟩) 1 c) (hg : w.heap[g']? = some (.cells ys.toArray T))
    (hy : ys.length = S) (hone : ∀ u ∈ ys, u.oneCell' = true) (hl : n ≤ 100000)
    (hK : ∀ v' w' p', RowB T S p' v' (n + 1) (xs ++ ys) → w'.heap[p'.1]? = some p'.2 → w.grownBy w' (some p.1) → (p'.1 = p.1 ∨ p'.1 = w.heap.size) → wpList Try.prog ops Q rest (a.put oo.dst v') w') :
    wpList Try.prog ops Q (oo :: rest) a w := by
  refine wpList_plain hgd fun K hK' => ?_
  have hlt := heap_lt hp
  obtain ⟨v', w', hr, h2, h3, _, h5⟩ := run_append_own_at (P := Try.prog) w 0 L oo.type T i0 z S bytes hL hi hz hs1 hby hzs hS v n xs (h.own hp (Nat.zero_le _)) ⟨g', 0, none⟩ 1 c ys (by omega) (fun j u hu => by
    rw [add_plain]
    simp [World.cell?, hg, hu]) hone (by simp only [maxLen]; omega) (by
      have : (n + 1) * bytes ≤ 100001 * 1000 := Nat.mul_le_mul (by omega) hbytes
      omega) (Nat.zero_le _)
  obtain ⟨p', hp1, hp2, _, hp3⟩ := RowB.of h2 (by omega)
  rw [h.block] at h3 h5
  rw [hp3] at h5
  unfold Oper.wp execOp
  simp only [ho, resolve, invoke, builtin, Sem.run_bind, Sem.run_pure, Result.andThen_ok, List.map_toArray, List.map_cons, List.map_nil, hs, hx, hr]
  refine hK' _ _ (hK v' w' p' hp1 hp2 h3 ?_)
  rcases h5 with e | e <;> injection e with e
  · exact .inl e
  · exact .inr e
/-- A list of pairs, in a block that is kept; or there is none. -/
def LV (es : List (Nat × Obj)) (v : Value) (l : List Pai) : Prop := (l = [] ∧ ∃ p c, v = .slice p 0 c ∧ (p = none → c = 0)) ∨ ∃ p ∈ es, RowB 52 2 p v l.length (l.flatMap Pai.vals)
theorem LV.mono {es es' : List (Nat × Obj)} {v : Value} {l : List Pai} (h : LV es v l) (hm : ∀ p ∈ es, p ∈ es') : LV es' v l := by
  rcases h with h | ⟨p, hp, h⟩
  · exact .inl h
  · exact .inr ⟨p, hm p hp, h⟩
theorem LV.pais {es : List (Nat × Obj)} {v : Value} {l : List Pai} {w : World} (h : LV es v l) (hw : ∀ p ∈ es, w.heap[p.1]? = some p.2) (hl : l.length ≤ 100000) : Pais 0 w v l := by
  rcases h with ⟨rfl, p, c, hv, hp⟩ | ⟨p, hp, h⟩
  · exact .inl ⟨⟨p, c, hv, hp⟩, rfl⟩
  · exact OwnPai.list (h.own (hw p hp) (Nat.zero_le _)) (by omega)
/-- A list that a call has made is kept. -/
theorem PS.list {w0 wa w : World} {pv : Value} {o : Option Nat} {room : Nat} {zs : List Cel} {bs : List (Nat × Obj)} {v : Value} {l : List Pai} (h : PS w0 wa pv o room zs (.slice none 0 0) [] bs) (hb : Below wa.heap.size wa w) (hv : OwnPai wa.heap.size w v l) :
    ∃ nb, PS w0 w pv o room zs (.slice none 0 0) [] (nb ++ bs) ∧ LV nb v l ∧ ∀ p ∈ nb, wa.heap.size ≤ p.1 := by
  by_cases h0 : l.length = 0
  · refine ⟨[], h.below hb, .inl ⟨List.length_eq_zero_iff.1 h0, ?_⟩, fun p hp => by cases hp⟩
    rcases hv.2 with ⟨e, _⟩ | ⟨g, cap, cur, e, _⟩
    · exact ⟨_, _, e, fun _ => rfl⟩
    · rw [h0] at e; exact ⟨_, _, e, fun k => by cases k⟩
  · obtain ⟨p, h1, h2, h3, _⟩ := RowB.of hv (by omega)
    exact ⟨[p], h.keepNew hb h2 h3, .inr ⟨p, List.mem_singleton.2 rfl, h1⟩, fun q hq => by rw [List.mem_singleton.1 hq]; exact h3⟩
end Go.Proofs.Ytpmimngngehmlaa.F
