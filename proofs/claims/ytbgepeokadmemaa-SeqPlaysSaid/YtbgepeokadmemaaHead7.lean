/-
  Contracts of small functions, several texts laid into one. Not a statement of the seat.
-/
import Derived.Test.YtbgepeokadmemaaLst
import Derived.Laws.AppendOwnNone
import Derived.Maps.AppendAt
import Derived.Deep.RegionLaw
namespace Go.Proofs.Ytbgepeokadmemaa.Lst
open Go.ChangeShapes Go.WideShapes Go.ChangeAt Go.RowKit Base
theorem map_at (ys : List Int) (k : Nat) (y : Value) (h : (ys.map (Value.int .i64))[k]? = some y) : k < ys.length ∧ y = .int .i64 (ys.getD k 0) := by
  rw [List.getElem?_map] at h
  obtain ⟨x, hx, rfl⟩ := Option.map_eq_some_iff.1 h
  have hk := (List.getElem?_eq_some_iff.1 hx).1
  refine ⟨hk, ?_⟩
  rw [List.getD_eq_getElem?_getD, hx]
  rfl
theorem run_append_ints {B base : Nat} {w : World} {v u : Value} {zs ys : List Int} (ty : TypeId)
    (hB : B ≤ w.heap.size) (hown : OwnI B w v zs) (hys : Ints base w u ys) (hu : ∀ n c, u = .slice none n c → c = 0) (hl : zs.length + ys.length ≤ 1000000) :
    ∃ v' w', (Builtin.append_ #[29, 29] ty #[v, u]).run Try.prog w = .ok v' w' ∧ OwnI B w' v' (zs ++ ys) ∧ w.grownBy w' v.ownBlock ∧ (v'.ownBlock = v.ownBlock ∨ v'.ownBlock = some w.heap.size) := by
  obtain ⟨i0, hi, hz0, hz1, hz2⟩ := info_parts int_info
  rcases hys with ⟨⟨p, c, rfl⟩, rfl⟩ | ⟨g, o', c, rfl, _, _, _, hc⟩
  · cases p with
    | none =>
      obtain rfl := hu _ _ rfl
      exact ⟨v, w, run_append_owned_none (P := Try.prog) (w := w) B 29 ty 3 i0 1 Try.underlying29 hi v zs.length (zs.map (Value.int .i64)) hown, by rw [List.append_nil]; exact hown, World.grownBy.refl _ _, .inl rfl⟩
    | some ad =>
      obtain ⟨v', w', hr, h2, h3, _, h5⟩ := run_append_own_at (P := Try.prog) w B 29 ty 3 i0 (.int .i64 0) 1 8 Try.underlying29 hi hz0 hz1 hz2 rfl (by decide) v zs.length (zs.map (Value.int .i64)) hown ad 0 c [] (by simp) (by simp) (by simp) (by simp only [maxLen]; omega) (by omega) hB
      refine ⟨v', w', hr, ?_, h3, h5⟩
      rw [List.append_nil]
      unfold OwnI
      simpa using h2
  · obtain ⟨v', w', hr, h2, h3, _, h5⟩ := run_append_own_at (P := Try.prog) w B 29 ty 3 i0 (.int .i64 0) 1 8 Try.underlying29 hi hz0 hz1 hz2 rfl (by decide) v zs.length (zs.map (Value.int .i64)) hown ⟨g, o', none⟩ ys.length c (ys.map (Value.int .i64)) (by simp) (by
      intro t y hy
      obtain ⟨hk, rfl⟩ := map_at ys t y hy
      rw [add_plain]
      exact hc t hk) (by
      intro y hy
      obtain ⟨x, _, rfl⟩ := List.mem_map.1 hy
      rfl) (by simp only [maxLen]; omega) (by omega) hB
    refine ⟨v', w', hr, ?_, h3, h5⟩
    unfold OwnI
    rw [List.length_append, List.map_append]
    exact h2
/-- Some are put behind a slice of the call's own. -/
theorem append_ints {ops : Array Oper} {rest : List Oper} {o : Oper} {a : Act} {Q : Exit → Act → World → Prop} (hgd : o.guard = none) (s x : Operand)
    (ho : o.op = .call { callee := .builtin .append, args := #[s, x], argTypes := #[29, 29] }) {B base : Nat} {w : World} {v u : Value} {zs ys : List Int}
    (hB : B ≤ w.heap.size) (hown : OwnI B w v zs) (hs : a.eval s = v) (hys : Ints base w u ys) (hu : ∀ n c, u = .slice none n c → c = 0) (hx : a.eval x = u) (hl : zs.length + ys.length ≤ 1000000)
    (h : ∀ v' w', OwnI B w' v' (zs ++ ys) → w.grownBy w' v.ownBlock → (v'.ownBlock = v.ownBlock ∨ v'.ownBlock = some w.heap.size) → wpList Try.prog ops Q rest (a.put o.dst v') w') :
    wpList Try.prog ops Q (o :: rest) a w := by
  refine wpList_plain hgd fun K hK => ?_
  obtain ⟨v', w', hr, h2, h3, h5⟩ := run_append_ints o.type hB hown hys hu hl
  unfold Oper.wp execOp
  simp only [ho, resolve, invoke, builtin, Sem.run_bind, Sem.run_pure, Result.andThen_ok, List.map_toArray, List.map_cons, List.map_nil, hs, hx, hr]
  exact hK _ _ (h v' w' h2 h3 h5)
/-- The same, as one step of a region that draws its order. -/
theorem step_append_ints {ops : Array Oper} {o : Oper} {a : Act} {w : World} {K : Act → World → Prop} {Q : Exit → Act → World → Prop} {E : Prop} (hgd : o.guard = none) (s x : Operand)
    (ho : o.op = .call { callee := .builtin .append, args := #[s, x], argTypes := #[29, 29] }) {B base : Nat} {v u : Value} {zs ys : List Int}
    (hB : B ≤ w.heap.size) (hown : OwnI B w v zs) (hs : a.eval s = v) (hys : Ints base w u ys) (hu : ∀ n c, u = .slice none n c → c = 0) (hx : a.eval x = u) (hl : zs.length + ys.length ≤ 1000000)
    (hK : ∀ v' w', OwnI B w' v' (zs ++ ys) → w.grownBy w' v.ownBlock → (v'.ownBlock = v.ownBlock ∨ v'.ownBlock = some w.heap.size) → K (a.put o.dst v') w') :
    if Region.wanted o (yielded ops a.tmps) = true then Oper.wp Try.prog o a w K Q else E := by
  rw [if_pos (by simp [Region.wanted, hgd])]
  obtain ⟨v', w', hr, h2, h3, h5⟩ := run_append_ints o.type hB hown hys hu hl
  unfold Oper.wp
  simp [execOp, ho, resolve, invoke, builtin, hs, hx, hr, Result.andThen]
  exact hK v' w' h2 h3 h5
theorem OwnI.lay {B : Nat} {w X : World} {v : Value} {zs : List Int} (h : OwnI B w v zs) (hx : X.heap = w.heap) (o : Obj) : OwnI B (X.alloc o) v zs := by
  have h1 : OwnI B X v zs := by
    unfold OwnI World.ownsRow at *
    rw [hx]
    exact h
  exact World.ownsRow.alloc h1 o
theorem OwnI.below {B : Nat} {w w' : World} {v : Value} {zs : List Int} (h : OwnI B w v zs) (hb : Below w.heap.size w w') : OwnI B w' v zs := by
  refine ⟨h.1, ?_⟩
  rcases h.2 with hn | ⟨g, cap, cur, rfl, hB, hg, rest⟩
  · exact .inl hn
  · exact .inr ⟨g, cap, cur, rfl, hB, (hb.block g (heap_lt hg)).trans hg, rest⟩
theorem ownI_empty {B : Nat} {W : World} {g : Nat} (hB : B ≤ g) (h : W.heap[g]? = some (.cells #[] 3)) : OwnI B W (.slice (some ⟨g, 0, none⟩) 0 0) [] :=
  ⟨rfl, .inr ⟨g, 0, #[], rfl, hB, h, Nat.le_refl _, by simp [maxLen], rfl, rfl⟩⟩
/-- One that is typed out. -/
theorem ownI_one {B : Nat} {W : World} {g : Nat} (x : Int) (hB : B ≤ g) (h : W.heap[g]? = some (.cells #[.int .i64 x] 3)) : OwnI B W (.slice (some ⟨g, 0, none⟩) 1 1) [x] :=
  ⟨rfl, .inr ⟨g, 1, #[.int .i64 x], rfl, hB, h, Nat.le_refl _, by simp [maxLen], rfl, rfl⟩⟩
theorem int_at {X : World} {g : Nat} (x : Int) (h : X.heap[g]? = some (.cells #[.int .i64 x] 3)) : Ints 0 X (.slice (some ⟨g, 0, none⟩) 1 1) [x] := by
  refine .inr ⟨g, 0, 1, rfl, Nat.zero_le _, heap_lt h, by simp, fun k hk => ?_⟩
  have : k = 0 := by simpa using hk
  subst this
  simp only [World.cell?, h]
  simp
theorem int_lit (x : Int) (X : World) : Ints 0 (X.alloc (.cells #[.int .i64 x] 3)) (.slice (some ⟨X.heap.size, 0, none⟩) 1 1) [x] := int_at x (heap_alloc_at _ _ _ rfl)
/-- How a slice of the call's own looks. -/
theorem OwnI.form {B : Nat} {w : World} {v : Value} {zs : List Int} (h : OwnI B w v zs) : (zs = [] ∧ v = .slice none 0 0) ∨ ∃ g cap, v = .slice (some ⟨g, 0, none⟩) zs.length cap ∧ B ≤ g ∧ g < w.heap.size ∧ zs.length ≤ cap := by
  rcases h.2 with ⟨hv, h0⟩ | ⟨g, cap, cur, hv, hB, hg, hc, _⟩
  · exact .inl ⟨List.length_eq_zero_iff.1 h0, hv⟩
  · exact .inr ⟨g, cap, hv, hB, heap_lt hg, hc⟩
theorem OwnI.cap0 {B : Nat} {w : World} {v : Value} {zs : List Int} (h : OwnI B w v zs) : ∀ n c, v = .slice none n c → c = 0 := fun n c e => by
  rcases h.form with ⟨_, hv⟩ | ⟨g, cap, hv, _⟩
  · rw [hv] at e; injection e with _ _ e; exact e.symm
  · rw [hv] at e; cases e
end Go.Proofs.Ytbgepeokadmemaa.Lst
namespace Go.Proofs.Ytbgepeokadmemaa.F
open Go.ChangeShapes Go.WideShapes Go.ChangeAt Go.RowKit Base
/-- The slice v holds xs, in a box; or there is none. -/
def LI (bs : List (Nat × Obj)) (v : Value) (xs : List Int) : Prop :=
  (xs = [] ∧ ∃ p c, v = .slice p 0 c ∧ (p = none → c = 0)) ∨ ∃ q ∈ bs, ∃ cur off c, q.2 = .cells cur 3 ∧ v = .slice (some ⟨q.1, off, none⟩) xs.length c ∧ xs.length ≤ c ∧ ∀ k, k < xs.length → cur[off + k]? = some (.int .i64 (xs.getD k 0))
theorem LI.nil (bs : List (Nat × Obj)) : LI bs (.slice none 0 0) [] := .inl ⟨rfl, none, 0, rfl, fun _ => rfl⟩
theorem LI.mono {bs bs' : List (Nat × Obj)} {v : Value} {xs : List Int} (h : LI bs v xs) (hm : ∀ p ∈ bs, p ∈ bs') : LI bs' v xs := by
  rcases h with h | ⟨q, hq, h⟩
  · exact .inl h
  · exact .inr ⟨q, hm q hq, h⟩
theorem LI.form {bs : List (Nat × Obj)} {v : Value} {xs : List Int} (h : LI bs v xs) : ∃ p c, v = .slice p xs.length c ∧ (p = none → c = 0) ∧ xs.length ≤ c := by
  rcases h with ⟨rfl, p, c, h, hp⟩ | ⟨q, hq, cur, off, c, _, h, hc, _⟩
  · exact ⟨p, c, h, hp, Nat.zero_le _⟩
  · exact ⟨_, c, h, (fun e => by cases e), hc⟩
theorem LI.cap0 {bs : List (Nat × Obj)} {v : Value} {xs : List Int} (h : LI bs v xs) : ∀ n c, v = .slice none n c → c = 0 := fun n c e => by
  obtain ⟨p, c', hv, hp, _⟩ := h.form
  rw [hv] at e
  injection e with e1 _ e3
  rw [← e3]
  exact hp e1
theorem LI.ints {bs : List (Nat × Obj)} {v : Value} {xs : List Int} {w : World} (h : LI bs v xs) (hw : ∀ p ∈ bs, w.heap[p.1]? = some p.2) (hl : xs.length ≤ 9223372036854775807) : Lst.Ints 0 w v xs := by
  rcases h with ⟨rfl, p, c, h, _⟩ | ⟨q, hq, cur, off, c, hq2, h, hc, hk⟩
  · exact .inl ⟨⟨p, c, h⟩, rfl⟩
  · refine .inr ⟨q.1, off, c, h, Nat.zero_le _, heap_lt (hw q hq), hl, fun k hk' => ?_⟩
    have h1 := hw q hq
    rw [hq2] at h1
    simp [World.cell?, h1, hk k hk']
/-- Its first, and a list of the others. -/
theorem LI.tail {bs : List (Nat × Obj)} {p : Option Addr} {n c : Nat} {x : Int} {xs : List Int} (h : LI bs (.slice p n c) (x :: xs)) (hl : xs.length + 1 ≤ 9223372036854775807) : ∃ g off, p = some ⟨g, off, none⟩ ∧ (∀ w : World, (∀ p ∈ bs, w.heap[p.1]? = some p.2) → g < w.heap.size ∧ w.cell? ⟨g, off, none⟩ = some (.int .i64 x)) ∧
    ∃ p' c', (∀ w, (Instr.sliceAt 29 (.slice p n c) (some (.int .i64 1)) none none).run Try.prog w = .ok (.slice p' xs.length c') w) ∧ LI bs (.slice p' xs.length c') xs := by
  rcases h with ⟨h, _⟩ | ⟨q, hq, cur, off, c', hq2, hv, hc, hk⟩
  · cases h
  · injection hv with e1 e2 e3
    subst e1 e2 e3
    rw [List.length_cons] at hc
    refine ⟨q.1, off, rfl, fun w hw => ⟨heap_lt (hw q hq), ?_⟩, ?_⟩
    · have h1 := hw q hq
      rw [hq2] at h1
      have := hk 0 (by simp)
      rw [Nat.add_zero] at this
      simp [World.cell?, h1, this]
    · have hrun : ∀ w, (Instr.sliceAt 29 (.slice (some ⟨q.1, off, none⟩) (x :: xs).length c) (some (.int .i64 ((1 : Nat) : Int))) none none).run Try.prog w = .ok (sliced (some ⟨q.1, off, none⟩) 1 (x :: xs).length c 1) w := fun w => by
        rw [run_sliceAt_slice _ _ _ _ _ _ Lst.elemInts, run_slice_l w _ _ _ _ Lst.elemInts _ _ (by simp) (by simp; omega), Lst.elemInts', Lst.sizeInt]; rfl
      by_cases h1 : c = 1
      · subst h1
        have h0 : xs = [] := List.length_eq_zero_iff.1 (by omega)
        subst h0
        refine ⟨some ⟨q.1, off, none⟩, 0, fun w => (hrun w).trans (by simp [sliced]), .inl ⟨rfl, _, _, rfl, fun e => by cases e⟩⟩
      · refine ⟨some ⟨q.1, off + 1, none⟩, c - 1, fun w => (hrun w).trans (by simp [sliced, h1, Addr.add]), .inr ⟨q, hq, cur, off + 1, c - 1, hq2, rfl, by omega, fun k hk' => ?_⟩⟩
        have := hk (k + 1) (by simpa using hk')
        rw [show off + 1 + k = off + (k + 1) by omega, this]
        simp
end Go.Proofs.Ytbgepeokadmemaa.F
