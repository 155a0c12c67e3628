/-
  Slices of structs of 4 cells (Opr) in memory: what they hold, how one that came in reads, appends. Not a statement of the seat.
-/
import Derived.Test.YtmgkpabagpgilaaHead2
namespace Go.Proofs.Ytmgkpabagpgilaa.F
open Go.ChangeShapes Go.WideShapes Go.ChangeAt Go.RowKit Base
/-- A value of the struct. -/
structure Opr where
  rd : Bool
  k : Int
  t : Int
  n : Int
def Opr.zero : Opr := ⟨false, 0, 0, 0⟩
/-- Its cells. -/
def Opr.vals (x : Opr) : List Value := [.bool x.rd, .int .i64 x.k, .int .i64 x.t, .int .i64 x.n]
/-- Its numbers are ints of 64 bits. -/
def Opr.ok (x : Opr) : Prop := (-9223372036854775808 ≤ x.k ∧ x.k ≤ 9223372036854775807) ∧ (-9223372036854775808 ≤ x.t ∧ x.t ≤ 9223372036854775807) ∧ (-9223372036854775808 ≤ x.n ∧ x.n ≤ 9223372036854775807)
/-- The slice v, whose elements lie from block base on, holds xs. -/
def Oprs (base : Nat) (w : World) (v : Value) (xs : List Opr) : Prop :=
  ((∃ p c, v = .slice p 0 c ∧ (p = none → c = 0)) ∧ xs = []) ∨ ∃ g o c, v = .slice (some ⟨g, o, none⟩) xs.length c ∧ base ≤ g ∧ g < w.heap.size ∧ xs.length ≤ 9223372036854775807 ∧ ∀ k, k < xs.length →
    w.cell? ⟨g, o + k * 4, none⟩ = some (.bool (xs.getD k Opr.zero).rd) ∧ w.cell? ⟨g, o + k * 4 + 1, none⟩ = some (.int .i64 (xs.getD k Opr.zero).k) ∧ w.cell? ⟨g, o + k * 4 + 2, none⟩ = some (.int .i64 (xs.getD k Opr.zero).t) ∧ w.cell? ⟨g, o + k * 4 + 3, none⟩ = some (.int .i64 (xs.getD k Opr.zero).n)
theorem Oprs.kept {base base' : Nat} {w w1 : World} {v : Value} {xs : List Opr} (h : Oprs base w v xs) (hb : ∀ g, base ≤ g → g < w.heap.size → w1.heap[g]? = w.heap[g]? ∧ base' ≤ g) (hs : w.heap.size ≤ w1.heap.size) : Oprs base' w1 v xs := by
  rcases h with h | ⟨g, o, c, hv, h0, h1, h2, h3⟩
  · exact .inl h
  · refine .inr ⟨g, o, c, hv, (hb g h0 h1).2, Nat.lt_of_lt_of_le h1 hs, h2, fun k hk => ?_⟩
    have key : ∀ j, w1.cell? ⟨g, j, none⟩ = w.cell? ⟨g, j, none⟩ := fun j => World.cell?_of_block (a := ⟨g, j, none⟩) (hb g h0 h1).1
    simp only [key]
    exact h3 k hk
theorem Oprs.below {base : Nat} {w w1 : World} {v : Value} {xs : List Opr} (h : Oprs base w v xs) (hb : Below w.heap.size w w1) : Oprs base w1 v xs :=
  h.kept (fun g h0 h1 => ⟨hb.block g h1, h0⟩) hb.size
theorem Oprs.grown {base : Nat} {w w1 : World} {v : Value} {xs : List Opr} {x : Option Nat} (h : Oprs base w v xs) (hg : w.grownBy w1 x) (hx : ∀ b, x = some b → b < base) : Oprs base w1 v xs :=
  h.kept (fun g h0 h1 => ⟨hg.block g h1 (fun e => by have := hx g e.symm; omega), h0⟩) hg.size
theorem Oprs.mono {base base' : Nat} {w : World} {v : Value} {xs : List Opr} (h : Oprs base w v xs) (hb : base' ≤ base) : Oprs base' w v xs :=
  h.kept (fun _ h0 _ => ⟨rfl, Nat.le_trans hb h0⟩) (Nat.le_refl _)
theorem Oprs.open_ {base : Nat} {w : World} {v : Value} {xs : List Opr} (h : Oprs base w v xs) : ∃ p c, v = .slice p xs.length c ∧ xs.length ≤ 9223372036854775807 ∧ ∀ k, k < xs.length → ∃ g o, p = some ⟨g, o, none⟩ ∧ base ≤ g ∧ g < w.heap.size ∧
    w.cell? ⟨g, o + k * 4, none⟩ = some (.bool (xs.getD k Opr.zero).rd) ∧ w.cell? ⟨g, o + k * 4 + 1, none⟩ = some (.int .i64 (xs.getD k Opr.zero).k) ∧ w.cell? ⟨g, o + k * 4 + 2, none⟩ = some (.int .i64 (xs.getD k Opr.zero).t) ∧ w.cell? ⟨g, o + k * 4 + 3, none⟩ = some (.int .i64 (xs.getD k Opr.zero).n) := by
  rcases h with ⟨⟨p, c, hv⟩, rfl⟩ | ⟨g, o, c, hv, h0, h1, h2, h3⟩
  · exact ⟨p, c, hv.1, by simp, fun k hk => absurd hk (by simp)⟩
  · exact ⟨_, c, hv, h2, fun k hk => ⟨g, o, rfl, h0, h1, h3 k hk⟩⟩
theorem Oprs.nil {base : Nat} {w : World} : Oprs base w (.slice none 0 0) [] := .inl ⟨⟨_, _, rfl, fun _ => rfl⟩, rfl⟩
theorem opr_flat_len (zs : List Opr) : (zs.flatMap Opr.vals).length = zs.length * 4 := by
  induction zs with
  | nil => rfl
  | cons x zs ih => rw [List.flatMap_cons, List.length_append, ih]; simp [Opr.vals]; omega
theorem opr_flat_get : ∀ (zs : List Opr) (k j : Nat), k < zs.length → j < 4 → (zs.flatMap Opr.vals)[k * 4 + j]? = (Opr.vals (zs.getD k Opr.zero))[j]?
  | x :: zs, 0, j, _, hj => by
    rw [List.flatMap_cons, List.getElem?_append_left (by simp [Opr.vals]; omega)]
    simp
  | x :: zs, k + 1, j, hk, hj => by
    rw [List.flatMap_cons, List.getElem?_append_right (by simp [Opr.vals]; omega), show (k + 1) * 4 + j - (Opr.vals x).length = k * 4 + j by simp [Opr.vals]; omega, opr_flat_get zs k j (by simpa using hk) hj]
    rfl
theorem opr_flat_take (zs : List Opr) (m : Nat) : (zs.flatMap Opr.vals).take (m * 4) = (zs.take m).flatMap Opr.vals := by
  induction zs generalizing m with
  | nil => simp
  | cons x zs ih =>
    cases m with
    | zero => simp
    | succ m =>
      rw [List.flatMap_cons, List.take_succ_cons, List.flatMap_cons, ← ih m, List.take_append, List.take_of_length_le (by simp [Opr.vals]; omega)]
      congr 2
      simp [Opr.vals]; omega
theorem opr_vals_one (zs : List Opr) : ∀ u ∈ zs.flatMap Opr.vals, u.oneCell' = true := by
  intro u hu
  obtain ⟨x, _, hx⟩ := List.mem_flatMap.1 hu
  simp only [Opr.vals, List.mem_cons, List.not_mem_nil, or_false] at hx
  rcases hx with rfl | rfl | rfl | rfl <;> rfl
/-- The slice v, which the call made itself from block B on, holds zs. -/
def OwnOpr (B : Nat) (w : World) (v : Value) (zs : List Opr) : Prop := w.ownsRow B 45 4 v zs.length (zs.flatMap Opr.vals)
theorem OwnOpr.nil (B : Nat) (w : World) : OwnOpr B w (.slice none 0 0) [] := World.ownsRow_nil _ _ _ _
theorem OwnOpr.list {B : Nat} {w : World} {v : Value} {zs : List Opr} (h : OwnOpr B w v zs) (hl : zs.length ≤ 9223372036854775807) : Oprs B w v zs := by
  have h' := h
  rcases h.2 with ⟨hv, h0⟩ | ⟨g, cap, cur, hv, hB, h2, _⟩
  · exact .inl ⟨⟨_, _, hv, fun _ => rfl⟩, List.length_eq_zero_iff.1 h0⟩
  · subst hv
    have hc : ∀ k j, k < zs.length → j < 4 → w.cell? ⟨g, 0 + k * 4 + j, none⟩ = (Opr.vals (zs.getD k Opr.zero))[j]? := fun k j hk hj => by
      rw [Nat.zero_add, ← opr_flat_get zs k j hk hj]
      exact World.ownsRow.cellAt h' (k * 4 + j) (by omega)
    exact .inr ⟨g, 0, cap, rfl, hB, heap_lt h2, hl, fun k hk => ⟨hc k 0 hk (by omega), hc k 1 hk (by omega), hc k 2 hk (by omega), hc k 3 hk (by omega)⟩⟩
theorem OwnOpr.kept {B : Nat} {w w1 : World} {v : Value} {zs : List Opr} (h : OwnOpr B w v zs) {row : Option Nat} (hg : w.grownBy w1 row) (hne : v.ownBlock = none ∨ v.ownBlock ≠ row) : OwnOpr B w1 v zs := World.ownsRow.kept h hg hne
theorem OwnOpr.below {B : Nat} {w w1 : World} {v : Value} {zs : List Opr} (h : OwnOpr B w v zs) (hb : Below w.heap.size w w1) : OwnOpr B w1 v zs :=
  World.ownsRow.kept h (row := none) ⟨hb.os, hb.tape, hb.output, hb.size, fun k hk _ => hb.block k hk⟩ (by cases v.ownBlock <;> simp)
theorem OwnOpr.base {B : Nat} {w : World} {v : Value} {zs : List Opr} (h : OwnOpr B w v zs) : ∀ k, v.ownBlock = some k → B ≤ k ∧ k < w.heap.size := World.ownsRow.lt h
/-- The first m of it, in the same place. -/
theorem OwnOpr.cut {B : Nat} {w : World} {p : Option Addr} {n c : Nat} {zs : List Opr} (h : OwnOpr B w (.slice p n c) zs) {m : Nat} (hm : m ≤ zs.length) : OwnOpr B w (.slice p m c) (zs.take m) := by
  obtain ⟨hl, h⟩ := h
  have hlen : (zs.take m).length = m := by rw [List.length_take]; omega
  refine ⟨by rw [opr_flat_len], ?_⟩
  rw [hlen]
  rcases h with ⟨hv, h0⟩ | ⟨g, cap, cur, hv, h1, h2, h3, h4, h5, h6⟩
  · injection hv with e1 e2 e3
    subst e1 e3
    obtain rfl : m = 0 := by omega
    exact .inl ⟨rfl, rfl⟩
  · injection hv with e1 e2 e3
    subst e1 e3
    refine .inr ⟨g, c, cur, rfl, h1, h2, by omega, h4, h5, ?_⟩
    rw [← opr_flat_take, ← h6, List.take_take]
    congr 1
    have := Nat.mul_le_mul_right 4 hm
    omega
theorem opr_info : (Try.prog.info? 45).map (fun i => (i.zero, i.size, i.bytes)) = some (some (.agg #[.bool false, .int .i64 0, .int .i64 0, .int .i64 0]), 4, 32) := by kernel_rfl
theorem run_append_oprs {B base : Nat} {w : World} {v u : Value} {zs ys : List Opr} (ty : TypeId)
    (hB : B ≤ w.heap.size) (hown : OwnOpr B w v zs) (hys : Oprs base w u ys) (hl : zs.length + ys.length ≤ 1000000) :
    ∃ v' w', (Builtin.append_ #[38, 38] ty #[v, u]).run Try.prog w = .ok v' w' ∧ OwnOpr B w' v' (zs ++ ys) ∧ w.grownBy w' v.ownBlock ∧ (v'.ownBlock = v.ownBlock ∨ v'.ownBlock = some w.heap.size) := by
  obtain ⟨i0, hi, hz0, hz1, hz2⟩ := info_parts opr_info
  rcases hys with ⟨⟨p, c, rfl, hpc⟩, rfl⟩ | ⟨g, o', c, rfl, _, _, _, hc⟩
  · cases p with
    | none =>
      obtain rfl := hpc rfl
      exact ⟨v, w, run_append_owned_none (P := Try.prog) (w := w) B 38 ty 45 i0 4 Try.underlying38 hi v zs.length (zs.flatMap Opr.vals) hown, by rw [List.append_nil]; exact hown, World.grownBy.refl _ _, .inl rfl⟩
    | some ad =>
      obtain ⟨v', w', hr, h2, h3, _, h5⟩ := run_append_own_at (P := Try.prog) w B 38 ty 45 i0 (.agg #[.bool false, .int .i64 0, .int .i64 0, .int .i64 0]) 4 32 Try.underlying38 hi hz0 hz1 hz2 rfl (by decide) v zs.length (zs.flatMap Opr.vals) hown ad 0 c [] (by simp) (by simp) (by simp) (by simp only [maxLen]; omega) (by omega) hB
      refine ⟨v', w', hr, ?_, h3, h5⟩
      rw [List.append_nil]
      unfold OwnOpr
      simpa using h2
  · obtain ⟨v', w', hr, h2, h3, _, h5⟩ := run_append_own_at (P := Try.prog) w B 38 ty 45 i0 (.agg #[.bool false, .int .i64 0, .int .i64 0, .int .i64 0]) 4 32 Try.underlying38 hi hz0 hz1 hz2 rfl (by decide) v zs.length (zs.flatMap Opr.vals) hown ⟨g, o', none⟩ ys.length c (ys.flatMap Opr.vals) (opr_flat_len ys) (by
      intro t y hy
      have ht : t < ys.length * 4 := by rw [← opr_flat_len ys]; exact (List.getElem?_eq_some_iff.1 hy).1
      have hk : t / 4 < ys.length := by omega
      have hr : t % 4 < 4 := Nat.mod_lt _ (by decide)
      have e : t = t / 4 * 4 + t % 4 := by omega
      have hcc := hc (t / 4) hk
      rw [e, opr_flat_get ys _ _ hk hr] at hy
      rw [add_plain, e]
      generalize t / 4 = k at hcc hy
      generalize t % 4 = j at hr hy
      obtain ⟨c0, c1, c2, c3⟩ := hcc
      match j, hr, hy with
      | 0, _, hy => simp [Opr.vals] at hy; subst hy; simpa [Nat.add_assoc] using c0
      | 1, _, hy => simp [Opr.vals] at hy; subst hy; simpa [Nat.add_assoc] using c1
      | 2, _, hy => simp [Opr.vals] at hy; subst hy; simpa [Nat.add_assoc] using c2
      | 3, _, hy => simp [Opr.vals] at hy; subst hy; simpa [Nat.add_assoc] using c3) (opr_vals_one ys) (by simp only [maxLen]; omega) (by omega) hB
    refine ⟨v', w', hr, ?_, h3, h5⟩
    unfold OwnOpr
    rw [List.length_append, List.flatMap_append]
    exact h2
/-- Some are put behind a slice of the call's own. -/
theorem append_oprs {ops : Array Oper} {rest : List Oper} {o : Oper} {a : Act} {Q : Exit → Act → World → Prop} (hgd : o.guard = none) (s x : Operand)
    (ho : o.op = .call { callee := .builtin .append, args := #[s, x], argTypes := #[38, 38] }) {B base : Nat} {w : World} {v u : Value} {zs ys : List Opr}
    (hB : B ≤ w.heap.size) (hown : OwnOpr B w v zs) (hs : a.eval s = v) (hys : Oprs base w u ys) (hx : a.eval x = u) (hl : zs.length + ys.length ≤ 1000000)
    (h : ∀ v' w', OwnOpr B w' v' (zs ++ ys) → w.grownBy w' v.ownBlock → (v'.ownBlock = v.ownBlock ∨ v'.ownBlock = some w.heap.size) → wpList Try.prog ops Q rest (a.put o.dst v') w') :
    wpList Try.prog ops Q (o :: rest) a w := by
  refine wpList_plain hgd fun K hK => ?_
  obtain ⟨v', w', hr, h2, h3, h5⟩ := run_append_oprs o.type hB hown hys hl
  unfold Oper.wp execOp
  simp only [ho, resolve, invoke, builtin, Sem.run_bind, Sem.run_pure, Result.andThen_ok, List.map_toArray, List.map_cons, List.map_nil, hs, hx, hr]
  exact hK _ _ (h v' w' h2 h3 h5)
/-- The same, as one step of a region that draws its order. -/
theorem step_append_oprs {ops : Array Oper} {o : Oper} {a : Act} {w : World} {K : Act → World → Prop} {Q : Exit → Act → World → Prop} {E : Prop} (hgd : o.guard = none) (s x : Operand)
    (ho : o.op = .call { callee := .builtin .append, args := #[s, x], argTypes := #[38, 38] }) {B base : Nat} {v u : Value} {zs ys : List Opr}
    (hB : B ≤ w.heap.size) (hown : OwnOpr B w v zs) (hs : a.eval s = v) (hys : Oprs base w u ys) (hx : a.eval x = u) (hl : zs.length + ys.length ≤ 1000000)
    (hK : ∀ v' w', OwnOpr B w' v' (zs ++ ys) → w.grownBy w' v.ownBlock → (v'.ownBlock = v.ownBlock ∨ v'.ownBlock = some w.heap.size) → K (a.put o.dst v') w') :
    if Region.wanted o (yielded ops a.tmps) = true then Oper.wp Try.prog o a w K Q else E := by
  rw [if_pos (by simp [Region.wanted, hgd])]
  obtain ⟨v', w', hr, h2, h3, h5⟩ := run_append_oprs o.type hB hown hys hl
  unfold Oper.wp
  simp [execOp, ho, resolve, invoke, builtin, hs, hx, hr, Result.andThen]
  exact hK v' w' h2 h3 h5
theorem OwnOpr.lay {B : Nat} {w X : World} {v : Value} {zs : List Opr} (h : OwnOpr B w v zs) (hx : X.heap = w.heap) (o : Obj) : OwnOpr B (X.alloc o) v zs := by
  have h1 : OwnOpr B X v zs := by
    unfold OwnOpr World.ownsRow at *
    rw [hx]
    exact h
  exact World.ownsRow.alloc h1 o
theorem ownOpr_empty {B : Nat} {W : World} {g : Nat} (hB : B ≤ g) (h : W.heap[g]? = some (.cells #[] 45)) : OwnOpr B W (.slice (some ⟨g, 0, none⟩) 0 0) [] :=
  ⟨rfl, .inr ⟨g, 0, #[], rfl, hB, h, Nat.le_refl _, by simp [maxLen], rfl, rfl⟩⟩
/-- One that is typed out. -/
theorem opr_at {X : World} {g : Nat} (c : Opr) (h : X.heap[g]? = some (.cells #[.bool c.rd, .int .i64 c.k, .int .i64 c.t, .int .i64 c.n] 45)) : Oprs 0 X (.slice (some ⟨g, 0, none⟩) 1 1) [c] := by
  refine .inr ⟨g, 0, 1, rfl, Nat.zero_le _, heap_lt h, by simp, fun k hk => ?_⟩
  have : k = 0 := by simpa using hk
  subst this
  simp only [World.cell?, h]
  simp
theorem opr_lit (c : Opr) (X : World) : Oprs 0 (X.alloc (.cells #[.bool c.rd, .int .i64 c.k, .int .i64 c.t, .int .i64 c.n] 45)) (.slice (some ⟨X.heap.size, 0, none⟩) 1 1) [c] := opr_at c (heap_alloc_at _ _ _ rfl)

section
variable {H : Type} {enc : TypeId × Value → H} {w : World}
set_option maxRecDepth 100000 in
theorem open_opr_cells {n : Nat} {u : Value} {y : DataW H × List MemPlace} (h : DataW.trod enc Try.prog w 0 (fun _ => true) true n 38 [u] = some y) : ∃ xs, (∃ p c, u = .slice p xs.length c ∧ xs.length ≤ c) ∧ Oprs 0 w u xs ∧ ∀ x ∈ xs, Opr.ok x := by
  obtain ⟨q, len, cap, rfl, hqc, hlc, hl, hc⟩ := open_structs2 Try.underlying38 Try.underlying45 (by kernel_rfl) (by kernel_rfl) (by decide) h
  have hx : ∀ k, ∃ x : Opr, Opr.ok x ∧ (k < len → ∃ g o, q = some ⟨g, o, none⟩ ∧ g < w.heap.size ∧ w.cell? ⟨g, o + k * 4, none⟩ = some (.bool x.rd) ∧ w.cell? ⟨g, o + k * 4 + 1, none⟩ = some (.int .i64 x.k) ∧ w.cell? ⟨g, o + k * 4 + 2, none⟩ = some (.int .i64 x.t) ∧ w.cell? ⟨g, o + k * 4 + 3, none⟩ = some (.int .i64 x.n)) := fun k => by
    by_cases hk : k < len
    · obtain ⟨g, o, ha, hg, hcc⟩ := hc k hk
      obtain ⟨u0, y0, n0, hc0, ht0⟩ := hcc 0 _ rfl
      obtain ⟨z0, hz0, _⟩ := DataW.trod_bool Try.underlying4 ht0
      obtain rfl := (List.cons.inj hz0).1
      obtain ⟨u1, y1, n1, hc1, ht1⟩ := hcc 1 _ rfl
      obtain ⟨z1, hz1, _, hb1⟩ := DataW.trod_int Try.underlying3 ht1
      obtain rfl := (List.cons.inj hz1).1
      obtain ⟨u2, y2, n2, hc2, ht2⟩ := hcc 2 _ rfl
      obtain ⟨z2, hz2, _, hb2⟩ := DataW.trod_int Try.underlying3 ht2
      obtain rfl := (List.cons.inj hz2).1
      obtain ⟨u3, y3, n3, hc3, ht3⟩ := hcc 3 _ rfl
      obtain ⟨z3, hz3, _, hb3⟩ := DataW.trod_int Try.underlying3 ht3
      obtain rfl := (List.cons.inj hz3).1
      exact ⟨⟨z0, z1, z2, z3⟩, ⟨bounds_i64 hb1, bounds_i64 hb2, bounds_i64 hb3⟩, fun _ => ⟨g, o, ha, hg, hc0, hc1, hc2, hc3⟩⟩
    · exact ⟨Opr.zero, ⟨⟨by decide, by decide⟩, ⟨by decide, by decide⟩, ⟨by decide, by decide⟩⟩, fun h => absurd h hk⟩
  obtain ⟨f, hf⟩ := Classical.axiomOfChoice hx
  have hlen : ((List.range len).map f).length = len := by simp
  refine ⟨(List.range len).map f, ⟨q, cap, by rw [hlen], by rw [hlen]; exact hlc⟩, ?_, fun x hx => ?_⟩
  · by_cases h0 : len = 0
    · subst h0
      exact .inl ⟨⟨_, _, rfl, hqc⟩, rfl⟩
    · obtain ⟨g, o, hq, hg, _⟩ := (hf 0).2 (by omega)
      subst hq
      refine .inr ⟨g, o, cap, by rw [hlen], Nat.zero_le _, hg, by rw [hlen]; exact hl, fun k hk => ?_⟩
      rw [hlen] at hk
      obtain ⟨g', o', hq, _, hcc⟩ := (hf k).2 hk
      simp only [Option.some.injEq, Addr.mk.injEq, and_true] at hq
      obtain ⟨rfl, rfl⟩ := hq
      have hget : ((List.range len).map f).getD k Opr.zero = f k := by simp [List.getD_eq_getElem?_getD, hk]
      rw [hget]
      exact hcc
  · obtain ⟨k, _, rfl⟩ := List.mem_map.1 hx
    exact (hf k).1
set_option maxRecDepth 100000 in
theorem open_oprs {r : Reach} {b0 : Nat} {v : Value} {d : DataW H} {p : List MemPlace} (hv : Value.okWide Try.prog w r b0 38 v) (h : DataW.Trod enc Try.prog w 0 (fun _ => true) true 38 v d p) : ∃ xs, (∃ p c, v = .slice p xs.length c ∧ xs.length ≤ c) ∧ Oprs 0 w v xs ∧ ∀ x ∈ xs, Opr.ok x := by
  obtain ⟨a0, len, cap, rfl⟩ := okWide_slice Try.underlying38 hv
  obtain ⟨fuel, hf⟩ := h
  exact open_opr_cells hf
set_option maxRecDepth 100000 in
theorem open_opr {r : Reach} {b0 : Nat} {v : Value} {d : DataW H} {p : List MemPlace} {base : Nat} {spare : Nat → Bool} {held : Bool} (hv : Value.okWide Try.prog w r b0 45 v) (h : DataW.Trod enc Try.prog w base spare held 45 v d p) : ∃ x : Opr, Opr.ok x ∧ v = .agg #[.bool x.rd, .int .i64 x.k, .int .i64 x.t, .int .i64 x.n] := by
  obtain ⟨cs, rfl, hsz⟩ := okWide_struct Try.underlying45 hv
  obtain ⟨fuel, hfu⟩ := h
  obtain ⟨xs, n', _, _, hcl, hxl, hg⟩ := DataW.trod_struct Try.underlying45 hfu
  have hsz' : cs.size = 4 := hsz
  have hxl' : xs.length = 4 := hxl
  obtain ⟨l⟩ := cs
  obtain ⟨u0, u1, u2, u3, rfl⟩ : ∃ u0 u1 u2 u3, l = [u0, u1, u2, u3] := by
    match l, hsz' with
    | [a0, a1, a2, a3], _ => exact ⟨a0, a1, a2, a3, rfl⟩
  have h0 := hg 0 _ rfl
  rw [List.getElem?_eq_getElem (by omega)] at h0
  obtain ⟨z0, hz0, _⟩ := DataW.trod_bool Try.underlying4 h0
  have e0 : [u0] = _ := hz0
  obtain rfl := (List.cons.inj e0).1
  have h1 := hg 1 _ rfl
  rw [List.getElem?_eq_getElem (by omega)] at h1
  obtain ⟨z1, hz1, _, hb1⟩ := DataW.trod_int Try.underlying3 h1
  have e1 : [u1] = _ := hz1
  obtain rfl := (List.cons.inj e1).1
  have h2 := hg 2 _ rfl
  rw [List.getElem?_eq_getElem (by omega)] at h2
  obtain ⟨z2, hz2, _, hb2⟩ := DataW.trod_int Try.underlying3 h2
  have e2 : [u2] = _ := hz2
  obtain rfl := (List.cons.inj e2).1
  have h3 := hg 3 _ rfl
  rw [List.getElem?_eq_getElem (by omega)] at h3
  obtain ⟨z3, hz3, _, hb3⟩ := DataW.trod_int Try.underlying3 h3
  have e3 : [u3] = _ := hz3
  obtain rfl := (List.cons.inj e3).1
  exact ⟨⟨z0, z1, z2, z3⟩, ⟨bounds_i64 hb1, bounds_i64 hb2, bounds_i64 hb3⟩, rfl⟩
end
end Go.Proofs.Ytmgkpabagpgilaa.F
