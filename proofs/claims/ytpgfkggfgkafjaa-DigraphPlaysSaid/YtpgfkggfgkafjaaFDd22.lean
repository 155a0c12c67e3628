/-
  Slices of structs of 5 ints (Dd22) in memory: what they hold, how one that came in reads, appends. Not a statement of the seat.
-/
import Derived.Test.YtpgfkggfgkafjaaHead8
namespace Go.Proofs.Ytpgfkggfgkafjaa.F
open Go.ChangeShapes Go.WideShapes Go.ChangeAt Go.RowKit Base
/-- A value of the struct. -/
structure Dd22 where
  kind : Int
  fr : Int
  to : Int
  kd : Int
  lb : Int
def Dd22.zero : Dd22 := ⟨0, 0, 0, 0, 0⟩
/-- Its cells. -/
def Dd22.vals (x : Dd22) : List Value := [.int .i64 x.kind, .int .i64 x.fr, .int .i64 x.to, .int .i64 x.kd, .int .i64 x.lb]
/-- Its fields are ints of 64 bits. -/
def Dd22.ok (x : Dd22) : Prop := (-9223372036854775808 ≤ x.kind ∧ x.kind ≤ 9223372036854775807) ∧ (-9223372036854775808 ≤ x.fr ∧ x.fr ≤ 9223372036854775807) ∧ (-9223372036854775808 ≤ x.to ∧ x.to ≤ 9223372036854775807) ∧ (-9223372036854775808 ≤ x.kd ∧ x.kd ≤ 9223372036854775807) ∧ (-9223372036854775808 ≤ x.lb ∧ x.lb ≤ 9223372036854775807)
/-- The slice v, whose elements lie from block base on, holds xs. -/
def Dd22s (base : Nat) (w : World) (v : Value) (xs : List Dd22) : Prop :=
  ((∃ p c, v = .slice p 0 c ∧ (p = none → c = 0)) ∧ xs = []) ∨ ∃ g o c, v = .slice (some ⟨g, o, none⟩) xs.length c ∧ base ≤ g ∧ g < w.heap.size ∧ xs.length ≤ 9223372036854775807 ∧ ∀ k, k < xs.length →
    w.cell? ⟨g, o + k * 5, none⟩ = some (.int .i64 (xs.getD k Dd22.zero).kind) ∧ w.cell? ⟨g, o + k * 5 + 1, none⟩ = some (.int .i64 (xs.getD k Dd22.zero).fr) ∧ w.cell? ⟨g, o + k * 5 + 2, none⟩ = some (.int .i64 (xs.getD k Dd22.zero).to) ∧ w.cell? ⟨g, o + k * 5 + 3, none⟩ = some (.int .i64 (xs.getD k Dd22.zero).kd) ∧ w.cell? ⟨g, o + k * 5 + 4, none⟩ = some (.int .i64 (xs.getD k Dd22.zero).lb)
theorem Dd22s.kept {base base' : Nat} {w w1 : World} {v : Value} {xs : List Dd22} (h : Dd22s base w v xs) (hb : ∀ g, base ≤ g → g < w.heap.size → w1.heap[g]? = w.heap[g]? ∧ base' ≤ g) (hs : w.heap.size ≤ w1.heap.size) : Dd22s base' w1 v xs := by
  rcases h with h | ⟨g, o, c, hv, h0, h1, h2, h3⟩
  · exact .inl h
  · refine .inr ⟨g, o, c, hv, (hb g h0 h1).2, Nat.lt_of_lt_of_le h1 hs, h2, fun k hk => ?_⟩
    have key : ∀ j, w1.cell? ⟨g, j, none⟩ = w.cell? ⟨g, j, none⟩ := fun j => World.cell?_of_block (a := ⟨g, j, none⟩) (hb g h0 h1).1
    simp only [key]
    exact h3 k hk
theorem Dd22s.below {base : Nat} {w w1 : World} {v : Value} {xs : List Dd22} (h : Dd22s base w v xs) (hb : Below w.heap.size w w1) : Dd22s base w1 v xs :=
  h.kept (fun g h0 h1 => ⟨hb.block g h1, h0⟩) hb.size
theorem Dd22s.grown {base : Nat} {w w1 : World} {v : Value} {xs : List Dd22} {x : Option Nat} (h : Dd22s base w v xs) (hg : w.grownBy w1 x) (hx : ∀ b, x = some b → b < base) : Dd22s base w1 v xs :=
  h.kept (fun g h0 h1 => ⟨hg.block g h1 (fun e => by have := hx g e.symm; omega), h0⟩) hg.size
theorem Dd22s.mono {base base' : Nat} {w : World} {v : Value} {xs : List Dd22} (h : Dd22s base w v xs) (hb : base' ≤ base) : Dd22s base' w v xs :=
  h.kept (fun _ h0 _ => ⟨rfl, Nat.le_trans hb h0⟩) (Nat.le_refl _)
theorem Dd22s.open_ {base : Nat} {w : World} {v : Value} {xs : List Dd22} (h : Dd22s base w v xs) : ∃ p c, v = .slice p xs.length c ∧ xs.length ≤ 9223372036854775807 ∧ ∀ k, k < xs.length → ∃ g o, p = some ⟨g, o, none⟩ ∧ base ≤ g ∧ g < w.heap.size ∧
    w.cell? ⟨g, o + k * 5, none⟩ = some (.int .i64 (xs.getD k Dd22.zero).kind) ∧ w.cell? ⟨g, o + k * 5 + 1, none⟩ = some (.int .i64 (xs.getD k Dd22.zero).fr) ∧ w.cell? ⟨g, o + k * 5 + 2, none⟩ = some (.int .i64 (xs.getD k Dd22.zero).to) ∧ w.cell? ⟨g, o + k * 5 + 3, none⟩ = some (.int .i64 (xs.getD k Dd22.zero).kd) ∧ w.cell? ⟨g, o + k * 5 + 4, none⟩ = some (.int .i64 (xs.getD k Dd22.zero).lb) := by
  rcases h with ⟨⟨p, c, hv⟩, rfl⟩ | ⟨g, o, c, hv, h0, h1, h2, h3⟩
  · exact ⟨p, c, hv.1, by simp, fun k hk => absurd hk (by simp)⟩
  · exact ⟨_, c, hv, h2, fun k hk => ⟨g, o, rfl, h0, h1, h3 k hk⟩⟩
theorem Dd22s.nil {base : Nat} {w : World} : Dd22s base w (.slice none 0 0) [] := .inl ⟨⟨_, _, rfl, fun _ => rfl⟩, rfl⟩
theorem dd22_flat_len (zs : List Dd22) : (zs.flatMap Dd22.vals).length = zs.length * 5 := by
  induction zs with
  | nil => rfl
  | cons x zs ih => rw [List.flatMap_cons, List.length_append, ih]; simp [Dd22.vals]; omega
theorem dd22_flat_get : ∀ (zs : List Dd22) (k j : Nat), k < zs.length → j < 5 → (zs.flatMap Dd22.vals)[k * 5 + j]? = (Dd22.vals (zs.getD k Dd22.zero))[j]?
  | x :: zs, 0, j, _, hj => by
    rw [List.flatMap_cons, List.getElem?_append_left (by simp [Dd22.vals]; omega)]
    simp
  | x :: zs, k + 1, j, hk, hj => by
    rw [List.flatMap_cons, List.getElem?_append_right (by simp [Dd22.vals]; omega), show (k + 1) * 5 + j - (Dd22.vals x).length = k * 5 + j by simp [Dd22.vals]; omega, dd22_flat_get zs k j (by simpa using hk) hj]
    rfl
theorem dd22_flat_take (zs : List Dd22) (m : Nat) : (zs.flatMap Dd22.vals).take (m * 5) = (zs.take m).flatMap Dd22.vals := by
  induction zs generalizing m with
  | nil => simp
  | cons x zs ih =>
    cases m with
    | zero => simp
    | succ m =>
      rw [List.flatMap_cons, List.take_succ_cons, List.flatMap_cons, ← ih m, List.take_append, List.take_of_length_le (by simp [Dd22.vals]; omega)]
      congr 2
      simp [Dd22.vals]; omega
theorem dd22_vals_one (zs : List Dd22) : ∀ u ∈ zs.flatMap Dd22.vals, u.oneCell' = true := by
  intro u hu
  obtain ⟨x, _, hx⟩ := List.mem_flatMap.1 hu
  simp only [Dd22.vals, List.mem_cons, List.not_mem_nil, or_false] at hx
  rcases hx with rfl | rfl | rfl | rfl | rfl <;> rfl
/-- The slice v, which the call made itself from block B on, holds zs. -/
def OwnDd22 (B : Nat) (w : World) (v : Value) (zs : List Dd22) : Prop := w.ownsRow B 31 5 v zs.length (zs.flatMap Dd22.vals)
theorem OwnDd22.nil (B : Nat) (w : World) : OwnDd22 B w (.slice none 0 0) [] := World.ownsRow_nil _ _ _ _
theorem OwnDd22.list {B : Nat} {w : World} {v : Value} {zs : List Dd22} (h : OwnDd22 B w v zs) (hl : zs.length ≤ 9223372036854775807) : Dd22s B w v zs := by
  have h' := h
  rcases h.2 with ⟨hv, h0⟩ | ⟨g, cap, cur, hv, hB, h2, _⟩
  · exact .inl ⟨⟨_, _, hv, fun _ => rfl⟩, List.length_eq_zero_iff.1 h0⟩
  · subst hv
    have hc : ∀ k j, k < zs.length → j < 5 → w.cell? ⟨g, 0 + k * 5 + j, none⟩ = (Dd22.vals (zs.getD k Dd22.zero))[j]? := fun k j hk hj => by
      rw [Nat.zero_add, ← dd22_flat_get zs k j hk hj]
      exact World.ownsRow.cellAt h' (k * 5 + j) (by omega)
    exact .inr ⟨g, 0, cap, rfl, hB, heap_lt h2, hl, fun k hk => ⟨hc k 0 hk (by omega), hc k 1 hk (by omega), hc k 2 hk (by omega), hc k 3 hk (by omega), hc k 4 hk (by omega)⟩⟩
theorem OwnDd22.kept {B : Nat} {w w1 : World} {v : Value} {zs : List Dd22} (h : OwnDd22 B w v zs) {row : Option Nat} (hg : w.grownBy w1 row) (hne : v.ownBlock = none ∨ v.ownBlock ≠ row) : OwnDd22 B w1 v zs := World.ownsRow.kept h hg hne
theorem OwnDd22.below {B : Nat} {w w1 : World} {v : Value} {zs : List Dd22} (h : OwnDd22 B w v zs) (hb : Below w.heap.size w w1) : OwnDd22 B w1 v zs :=
  World.ownsRow.kept h (row := none) ⟨hb.os, hb.tape, hb.output, hb.size, fun k hk _ => hb.block k hk⟩ (by cases v.ownBlock <;> simp)
theorem OwnDd22.base {B : Nat} {w : World} {v : Value} {zs : List Dd22} (h : OwnDd22 B w v zs) : ∀ k, v.ownBlock = some k → B ≤ k ∧ k < w.heap.size := World.ownsRow.lt h
/-- The first m of it, in the same place. -/
theorem OwnDd22.cut {B : Nat} {w : World} {p : Option Addr} {n c : Nat} {zs : List Dd22} (h : OwnDd22 B w (.slice p n c) zs) {m : Nat} (hm : m ≤ zs.length) : OwnDd22 B w (.slice p m c) (zs.take m) := by
  obtain ⟨hl, h⟩ := h
  have hlen : (zs.take m).length = m := by rw [List.length_take]; omega
  refine ⟨by rw [dd22_flat_len], ?_⟩
  rw [hlen]
  rcases h with ⟨hv, h0⟩ | ⟨g, cap, cur, hv, h1, h2, h3, h4, h5, h6⟩
  · injection hv with e1 e2 e3
    subst e1 e3
    obtain rfl : m = 0 := by omega
    exact .inl ⟨rfl, rfl⟩
  · injection hv with e1 e2 e3
    subst e1 e3
    refine .inr ⟨g, c, cur, rfl, h1, h2, by omega, h4, h5, ?_⟩
    rw [← dd22_flat_take, ← h6, List.take_take]
    congr 1
    have := Nat.mul_le_mul_right 5 hm
    omega
theorem dd22_info : (Try.prog.info? 31).map (fun i => (i.zero, i.size, i.bytes)) = some (some (.agg #[.int .i64 0, .int .i64 0, .int .i64 0, .int .i64 0, .int .i64 0]), 5, 40) := by kernel_rfl
theorem run_append_dd22s {B base : Nat} {w : World} {v u : Value} {zs ys : List Dd22} (ty : TypeId)
    (hB : B ≤ w.heap.size) (hown : OwnDd22 B w v zs) (hys : Dd22s base w u ys) (hl : zs.length + ys.length ≤ 1000000) :
    ∃ v' w', (Builtin.append_ #[22, 22] ty #[v, u]).run Try.prog w = .ok v' w' ∧ OwnDd22 B w' v' (zs ++ ys) ∧ w.grownBy w' v.ownBlock ∧ (v'.ownBlock = v.ownBlock ∨ v'.ownBlock = some w.heap.size) := by
  obtain ⟨i0, hi, hz0, hz1, hz2⟩ := info_parts dd22_info
  rcases hys with ⟨⟨p, c, rfl, hpc⟩, rfl⟩ | ⟨g, o', c, rfl, _, _, _, hc⟩
  · cases p with
    | none =>
      obtain rfl := hpc rfl
      exact ⟨v, w, run_append_owned_none (P := Try.prog) (w := w) B 22 ty 31 i0 5 Try.underlying22 hi v zs.length (zs.flatMap Dd22.vals) hown, by rw [List.append_nil]; exact hown, World.grownBy.refl _ _, .inl rfl⟩
    | some ad =>
      obtain ⟨v', w', hr, h2, h3, _, h5⟩ := run_append_own_at (P := Try.prog) w B 22 ty 31 i0 (.agg #[.int .i64 0, .int .i64 0, .int .i64 0, .int .i64 0, .int .i64 0]) 5 40 Try.underlying22 hi hz0 hz1 hz2 rfl (by decide) v zs.length (zs.flatMap Dd22.vals) hown ad 0 c [] (by simp) (by simp) (by simp) (by simp only [maxLen]; omega) (by omega) hB
      refine ⟨v', w', hr, ?_, h3, h5⟩
      rw [List.append_nil]
      unfold OwnDd22
      simpa using h2
  · obtain ⟨v', w', hr, h2, h3, _, h5⟩ := run_append_own_at (P := Try.prog) w B 22 ty 31 i0 (.agg #[.int .i64 0, .int .i64 0, .int .i64 0, .int .i64 0, .int .i64 0]) 5 40 Try.underlying22 hi hz0 hz1 hz2 rfl (by decide) v zs.length (zs.flatMap Dd22.vals) hown ⟨g, o', none⟩ ys.length c (ys.flatMap Dd22.vals) (dd22_flat_len ys) (by
      intro t y hy
      have ht : t < ys.length * 5 := by rw [← dd22_flat_len ys]; exact (List.getElem?_eq_some_iff.1 hy).1
      have hk : t / 5 < ys.length := by omega
      have hr : t % 5 < 5 := Nat.mod_lt _ (by decide)
      have e : t = t / 5 * 5 + t % 5 := by omega
      have hcc := hc (t / 5) hk
      rw [e, dd22_flat_get ys _ _ hk hr] at hy
      rw [add_plain, e]
      generalize t / 5 = k at hcc hy
      generalize t % 5 = j at hr hy
      obtain ⟨c0, c1, c2, c3, c4⟩ := hcc
      match j, hr, hy with
      | 0, _, hy => simp [Dd22.vals] at hy; subst hy; simpa [Nat.add_assoc] using c0
      | 1, _, hy => simp [Dd22.vals] at hy; subst hy; simpa [Nat.add_assoc] using c1
      | 2, _, hy => simp [Dd22.vals] at hy; subst hy; simpa [Nat.add_assoc] using c2
      | 3, _, hy => simp [Dd22.vals] at hy; subst hy; simpa [Nat.add_assoc] using c3
      | 4, _, hy => simp [Dd22.vals] at hy; subst hy; simpa [Nat.add_assoc] using c4) (dd22_vals_one ys) (by simp only [maxLen]; omega) (by omega) hB
    refine ⟨v', w', hr, ?_, h3, h5⟩
    unfold OwnDd22
    rw [List.length_append, List.flatMap_append]
    exact h2
/-- Some are put behind a slice of the call's own. -/
theorem append_dd22s {ops : Array Oper} {rest : List Oper} {o : Oper} {a : Act} {Q : Exit → Act → World → Prop} (hgd : o.guard = none) (s x : Operand)
    (ho : o.op = .call { callee := .builtin .append, args := #[s, x], argTypes := #[22, 22] }) {B base : Nat} {w : World} {v u : Value} {zs ys : List Dd22}
    (hB : B ≤ w.heap.size) (hown : OwnDd22 B w v zs) (hs : a.eval s = v) (hys : Dd22s base w u ys) (hx : a.eval x = u) (hl : zs.length + ys.length ≤ 1000000)
    (h : ∀ v' w', OwnDd22 B w' v' (zs ++ ys) → w.grownBy w' v.ownBlock → (v'.ownBlock = v.ownBlock ∨ v'.ownBlock = some w.heap.size) → wpList Try.prog ops Q rest (a.put o.dst v') w') :
    wpList Try.prog ops Q (o :: rest) a w := by
  refine wpList_plain hgd fun K hK => ?_
  obtain ⟨v', w', hr, h2, h3, h5⟩ := run_append_dd22s o.type hB hown hys hl
  unfold Oper.wp execOp
  simp only [ho, resolve, invoke, builtin, Sem.run_bind, Sem.run_pure, Result.andThen_ok, List.map_toArray, List.map_cons, List.map_nil, hs, hx, hr]
  exact hK _ _ (h v' w' h2 h3 h5)
/-- The same, as one step of a region that draws its order. -/
theorem step_append_dd22s {ops : Array Oper} {o : Oper} {a : Act} {w : World} {K : Act → World → Prop} {Q : Exit → Act → World → Prop} {E : Prop} (hgd : o.guard = none) (s x : Operand)
    (ho : o.op = .call { callee := .builtin .append, args := #[s, x], argTypes := #[22, 22] }) {B base : Nat} {v u : Value} {zs ys : List Dd22}
    (hB : B ≤ w.heap.size) (hown : OwnDd22 B w v zs) (hs : a.eval s = v) (hys : Dd22s base w u ys) (hx : a.eval x = u) (hl : zs.length + ys.length ≤ 1000000)
    (hK : ∀ v' w', OwnDd22 B w' v' (zs ++ ys) → w.grownBy w' v.ownBlock → (v'.ownBlock = v.ownBlock ∨ v'.ownBlock = some w.heap.size) → K (a.put o.dst v') w') :
    if Region.wanted o (yielded ops a.tmps) = true then Oper.wp Try.prog o a w K Q else E := by
  rw [if_pos (by simp [Region.wanted, hgd])]
  obtain ⟨v', w', hr, h2, h3, h5⟩ := run_append_dd22s o.type hB hown hys hl
  unfold Oper.wp
  simp [execOp, ho, resolve, invoke, builtin, hs, hx, hr, Result.andThen]
  exact hK v' w' h2 h3 h5
theorem OwnDd22.lay {B : Nat} {w X : World} {v : Value} {zs : List Dd22} (h : OwnDd22 B w v zs) (hx : X.heap = w.heap) (o : Obj) : OwnDd22 B (X.alloc o) v zs := by
  have h1 : OwnDd22 B X v zs := by
    unfold OwnDd22 World.ownsRow at *
    rw [hx]
    exact h
  exact World.ownsRow.alloc h1 o
theorem ownDd22_empty {B : Nat} {W : World} {g : Nat} (hB : B ≤ g) (h : W.heap[g]? = some (.cells #[] 31)) : OwnDd22 B W (.slice (some ⟨g, 0, none⟩) 0 0) [] :=
  ⟨rfl, .inr ⟨g, 0, #[], rfl, hB, h, Nat.le_refl _, by simp [maxLen], rfl, rfl⟩⟩
/-- One that is typed out. -/
theorem dd22_at {X : World} {g : Nat} (c : Dd22) (h : X.heap[g]? = some (.cells #[.int .i64 c.kind, .int .i64 c.fr, .int .i64 c.to, .int .i64 c.kd, .int .i64 c.lb] 31)) : Dd22s 0 X (.slice (some ⟨g, 0, none⟩) 1 1) [c] := by
  refine .inr ⟨g, 0, 1, rfl, Nat.zero_le _, heap_lt h, by simp, fun k hk => ?_⟩
  have : k = 0 := by simpa using hk
  subst this
  simp only [World.cell?, h]
  simp
theorem dd22_lit (c : Dd22) (X : World) : Dd22s 0 (X.alloc (.cells #[.int .i64 c.kind, .int .i64 c.fr, .int .i64 c.to, .int .i64 c.kd, .int .i64 c.lb] 31)) (.slice (some ⟨X.heap.size, 0, none⟩) 1 1) [c] := dd22_at c (heap_alloc_at _ _ _ rfl)

theorem dd22_flat : flatB Try.prog 8 31 = true := by kernel_rfl
theorem dd22_cells : Try.prog.cellsOf 31 = 5 := by kernel_rfl
section
variable {H : Type} {enc : TypeId × Value → H} {w : World}
set_option maxRecDepth 100000 in
theorem open_dd22s {r : Reach} {b0 : Nat} {v : Value} {d : DataW H} {p : List MemPlace} (hv : Value.okWide Try.prog w r b0 22 v) (h : DataW.Trod enc Try.prog w 0 (fun _ => true) true 22 v d p) : ∃ xs, (∃ p c, v = .slice p xs.length c ∧ xs.length ≤ c) ∧ Dd22s 0 w v xs ∧ ∀ x ∈ xs, Dd22.ok x := by
  obtain ⟨q, len, cap, G, rfl, hqc, hlc, hl, hG, hc⟩ := open_flat Try.underlying22 dd22_flat (by rw [dd22_cells]; decide) hv h
  rw [dd22_cells] at hc
  have hlen : ((List.range len).map fun k => (⟨G k 0, G k 1, G k 2, G k 3, G k 4⟩ : Dd22)).length = len := by simp
  refine ⟨(List.range len).map fun k => ⟨G k 0, G k 1, G k 2, G k 3, G k 4⟩, ⟨q, cap, by rw [hlen], by rw [hlen]; exact hlc⟩, ?_, fun x hx => ?_⟩
  · by_cases h0 : len = 0
    · subst h0
      exact .inl ⟨⟨_, _, rfl, hqc⟩, rfl⟩
    · obtain ⟨g, o, hq, hg, _⟩ := hc 0 (by omega)
      subst hq
      refine .inr ⟨g, o, cap, by rw [hlen], Nat.zero_le _, hg, by rw [hlen]; exact hl, fun k hk => ?_⟩
      rw [hlen] at hk
      obtain ⟨g', o', hq, _, hcc⟩ := hc k hk
      simp only [Option.some.injEq, Addr.mk.injEq, and_true] at hq
      obtain ⟨rfl, rfl⟩ := hq
      have hget : ((List.range len).map fun k => (⟨G k 0, G k 1, G k 2, G k 3, G k 4⟩ : Dd22)).getD k Dd22.zero = ⟨G k 0, G k 1, G k 2, G k 3, G k 4⟩ := by simp [List.getD_eq_getElem?_getD, hk]
      rw [hget]
      exact ⟨hcc 0 (by omega), hcc 1 (by omega), hcc 2 (by omega), hcc 3 (by omega), hcc 4 (by omega)⟩
  · obtain ⟨k, _, rfl⟩ := List.mem_map.1 hx
    exact ⟨hG k 0, hG k 1, hG k 2, hG k 3, hG k 4⟩
set_option maxRecDepth 100000 in
theorem open_dd22 {r : Reach} {b0 : Nat} {v : Value} {d : DataW H} {p : List MemPlace} {base : Nat} {spare : Nat → Bool} {held : Bool} (hv : Value.okWide Try.prog w r b0 31 v) (h : DataW.Trod enc Try.prog w base spare held 31 v d p) : ∃ x : Dd22, Dd22.ok x ∧ v = .agg #[.int .i64 x.kind, .int .i64 x.fr, .int .i64 x.to, .int .i64 x.kd, .int .i64 x.lb] := by
  obtain ⟨G, hG, hv'⟩ := open_flat1 Try.underlying31 dd22_flat hv h
  rw [dd22_cells] at hv'
  exact ⟨⟨G 0, G 1, G 2, G 3, G 4⟩, ⟨hG 0, hG 1, hG 2, hG 3, hG 4⟩, hv'⟩
end
end Go.Proofs.Ytpgfkggfgkafjaa.F
