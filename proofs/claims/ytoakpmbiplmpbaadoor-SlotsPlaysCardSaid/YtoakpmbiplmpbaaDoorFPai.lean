/-
  Slices of structs of 2 ints (Pai) in memory: what they hold, how one that came in reads, appends. Not a statement of the seat.
-/
import Derived.Test.YtoakpmbiplmpbaaDoorStructs
namespace Go.Proofs.YtoakpmbiplmpbaaDoor.F
open Go.ChangeShapes Go.WideShapes Go.ChangeAt Go.RowKit Base
/-- A value of the struct. -/
structure Pai where
  k : Int
  v : Int
def Pai.zero : Pai := ⟨0, 0⟩
/-- Its cells. -/
def Pai.vals (x : Pai) : List Value := [.int .i64 x.k, .int .i64 x.v]
/-- Its fields are ints of 64 bits. -/
def Pai.ok (x : Pai) : Prop := (-9223372036854775808 ≤ x.k ∧ x.k ≤ 9223372036854775807) ∧ (-9223372036854775808 ≤ x.v ∧ x.v ≤ 9223372036854775807)
/-- The slice v, whose elements lie from block base on, holds xs. -/
def Pais (base : Nat) (w : World) (v : Value) (xs : List Pai) : Prop :=
  ((∃ p c, v = .slice p 0 c ∧ (p = none → c = 0)) ∧ xs = []) ∨ ∃ g o c, v = .slice (some ⟨g, o, none⟩) xs.length c ∧ base ≤ g ∧ g < w.heap.size ∧ xs.length ≤ 9223372036854775807 ∧ ∀ k, k < xs.length →
    w.cell? ⟨g, o + k * 2, none⟩ = some (.int .i64 (xs.getD k Pai.zero).k) ∧ w.cell? ⟨g, o + k * 2 + 1, none⟩ = some (.int .i64 (xs.getD k Pai.zero).v)
theorem Pais.kept {base base' : Nat} {w w1 : World} {v : Value} {xs : List Pai} (h : Pais base w v xs) (hb : ∀ g, base ≤ g → g < w.heap.size → w1.heap[g]? = w.heap[g]? ∧ base' ≤ g) (hs : w.heap.size ≤ w1.heap.size) : Pais base' w1 v xs := by
  rcases h with h | ⟨g, o, c, hv, h0, h1, h2, h3⟩
  · exact .inl h
  · refine .inr ⟨g, o, c, hv, (hb g h0 h1).2, Nat.lt_of_lt_of_le h1 hs, h2, fun k hk => ?_⟩
    have key : ∀ j, w1.cell? ⟨g, j, none⟩ = w.cell? ⟨g, j, none⟩ := fun j => World.cell?_of_block (a := ⟨g, j, none⟩) (hb g h0 h1).1
    simp only [key]
    exact h3 k hk
theorem Pais.below {base : Nat} {w w1 : World} {v : Value} {xs : List Pai} (h : Pais base w v xs) (hb : Below w.heap.size w w1) : Pais base w1 v xs :=
  h.kept (fun g h0 h1 => ⟨hb.block g h1, h0⟩) hb.size
theorem Pais.grown {base : Nat} {w w1 : World} {v : Value} {xs : List Pai} {x : Option Nat} (h : Pais base w v xs) (hg : w.grownBy w1 x) (hx : ∀ b, x = some b → b < base) : Pais base w1 v xs :=
  h.kept (fun g h0 h1 => ⟨hg.block g h1 (fun e => by have := hx g e.symm; omega), h0⟩) hg.size
theorem Pais.mono {base base' : Nat} {w : World} {v : Value} {xs : List Pai} (h : Pais base w v xs) (hb : base' ≤ base) : Pais base' w v xs :=
  h.kept (fun _ h0 _ => ⟨rfl, Nat.le_trans hb h0⟩) (Nat.le_refl _)
theorem Pais.open_ {base : Nat} {w : World} {v : Value} {xs : List Pai} (h : Pais base w v xs) : ∃ p c, v = .slice p xs.length c ∧ xs.length ≤ 9223372036854775807 ∧ ∀ k, k < xs.length → ∃ g o, p = some ⟨g, o, none⟩ ∧ base ≤ g ∧ g < w.heap.size ∧
    w.cell? ⟨g, o + k * 2, none⟩ = some (.int .i64 (xs.getD k Pai.zero).k) ∧ w.cell? ⟨g, o + k * 2 + 1, none⟩ = some (.int .i64 (xs.getD k Pai.zero).v) := by
  rcases h with ⟨⟨p, c, hv⟩, rfl⟩ | ⟨g, o, c, hv, h0, h1, h2, h3⟩
  · exact ⟨p, c, hv.1, by simp, fun k hk => absurd hk (by simp)⟩
  · exact ⟨_, c, hv, h2, fun k hk => ⟨g, o, rfl, h0, h1, h3 k hk⟩⟩
theorem Pais.nil {base : Nat} {w : World} : Pais base w (.slice none 0 0) [] := .inl ⟨⟨_, _, rfl, fun _ => rfl⟩, rfl⟩
theorem pai_flat_len (zs : List Pai) : (zs.flatMap Pai.vals).length = zs.length * 2 := by
  induction zs with
  | nil => rfl
  | cons x zs ih => rw [List.flatMap_cons, List.length_append, ih]; simp [Pai.vals]; omega
theorem pai_flat_get : ∀ (zs : List Pai) (k j : Nat), k < zs.length → j < 2 → (zs.flatMap Pai.vals)[k * 2 + j]? = (Pai.vals (zs.getD k Pai.zero))[j]?
  | x :: zs, 0, j, _, hj => by
    rw [List.flatMap_cons, List.getElem?_append_left (by simp [Pai.vals]; omega)]
    simp
  | x :: zs, k + 1, j, hk, hj => by
    rw [List.flatMap_cons, List.getElem?_append_right (by simp [Pai.vals]; omega), show (k + 1) * 2 + j - (Pai.vals x).length = k * 2 + j by simp [Pai.vals]; omega, pai_flat_get zs k j (by simpa using hk) hj]
    rfl
theorem pai_flat_take (zs : List Pai) (m : Nat) : (zs.flatMap Pai.vals).take (m * 2) = (zs.take m).flatMap Pai.vals := by
  induction zs generalizing m with
  | nil => simp
  | cons x zs ih =>
    cases m with
    | zero => simp
    | succ m =>
      rw [List.flatMap_cons, List.take_succ_cons, List.flatMap_cons, ← ih m, List.take_append, List.take_of_length_le (by simp [Pai.vals]; omega)]
      congr 2
      simp [Pai.vals]; omega
theorem pai_vals_one (zs : List Pai) : ∀ u ∈ zs.flatMap Pai.vals, u.oneCell' = true := by
  intro u hu
  obtain ⟨x, _, hx⟩ := List.mem_flatMap.1 hu
  simp only [Pai.vals, List.mem_cons, List.not_mem_nil, or_false] at hx
  rcases hx with rfl | rfl <;> rfl
/-- The slice v, which the call made itself from block B on, holds zs. -/
def OwnPai (B : Nat) (w : World) (v : Value) (zs : List Pai) : Prop := w.ownsRow B 62 2 v zs.length (zs.flatMap Pai.vals)
theorem OwnPai.nil (B : Nat) (w : World) : OwnPai B w (.slice none 0 0) [] := World.ownsRow_nil _ _ _ _
theorem OwnPai.list {B : Nat} {w : World} {v : Value} {zs : List Pai} (h : OwnPai B w v zs) (hl : zs.length ≤ 9223372036854775807) : Pais B w v zs := by
  have h' := h
  rcases h.2 with ⟨hv, h0⟩ | ⟨g, cap, cur, hv, hB, h2, _⟩
  · exact .inl ⟨⟨_, _, hv, fun _ => rfl⟩, List.length_eq_zero_iff.1 h0⟩
  · subst hv
    have hc : ∀ k j, k < zs.length → j < 2 → w.cell? ⟨g, 0 + k * 2 + j, none⟩ = (Pai.vals (zs.getD k Pai.zero))[j]? := fun k j hk hj => by
      rw [Nat.zero_add, ← pai_flat_get zs k j hk hj]
      exact World.ownsRow.cellAt h' (k * 2 + j) (by omega)
    exact .inr ⟨g, 0, cap, rfl, hB, heap_lt h2, hl, fun k hk => ⟨hc k 0 hk (by omega), hc k 1 hk (by omega)⟩⟩
theorem OwnPai.kept {B : Nat} {w w1 : World} {v : Value} {zs : List Pai} (h : OwnPai B w v zs) {row : Option Nat} (hg : w.grownBy w1 row) (hne : v.ownBlock = none ∨ v.ownBlock ≠ row) : OwnPai B w1 v zs := World.ownsRow.kept h hg hne
theorem OwnPai.below {B : Nat} {w w1 : World} {v : Value} {zs : List Pai} (h : OwnPai B w v zs) (hb : Below w.heap.size w w1) : OwnPai B w1 v zs :=
  World.ownsRow.kept h (row := none) ⟨hb.os, hb.tape, hb.output, hb.size, fun k hk _ => hb.block k hk⟩ (by cases v.ownBlock <;> simp)
theorem OwnPai.base {B : Nat} {w : World} {v : Value} {zs : List Pai} (h : OwnPai B w v zs) : ∀ k, v.ownBlock = some k → B ≤ k ∧ k < w.heap.size := World.ownsRow.lt h
/-- The first m of it, in the same place. -/
theorem OwnPai.cut {B : Nat} {w : World} {p : Option Addr} {n c : Nat} {zs : List Pai} (h : OwnPai B w (.slice p n c) zs) {m : Nat} (hm : m ≤ zs.length) : OwnPai B w (.slice p m c) (zs.take m) := by
  obtain ⟨hl, h⟩ := h
  have hlen : (zs.take m).length = m := by rw [List.length_take]; omega
  refine ⟨by rw [pai_flat_len], ?_⟩
  rw [hlen]
  rcases h with ⟨hv, h0⟩ | ⟨g, cap, cur, hv, h1, h2, h3, h4, h5, h6⟩
  · injection hv with e1 e2 e3
    subst e1 e3
    obtain rfl : m = 0 := by omega
    exact .inl ⟨rfl, rfl⟩
  · injection hv with e1 e2 e3
    subst e1 e3
    refine .inr ⟨g, c, cur, rfl, h1, h2, by omega, h4, h5, ?_⟩
    rw [← pai_flat_take, ← h6, List.take_take]
    congr 1
    have := Nat.mul_le_mul_right 2 hm
    omega
theorem pai_info : (Tryd.prog.info? 62).map (fun i => (i.zero, i.size, i.bytes)) = some (some (.agg #[.int .i64 0, .int .i64 0]), 2, 16) := by kernel_rfl
theorem run_append_pais {B base : Nat} {w : World} {v u : Value} {zs ys : List Pai} (ty : TypeId)
    (hB : B ≤ w.heap.size) (hown : OwnPai B w v zs) (hys : Pais base w u ys) (hl : zs.length + ys.length ≤ 1000000) :
    ∃ v' w', (Builtin.append_ #[46, 46] ty #[v, u]).run Tryd.prog w = .ok v' w' ∧ OwnPai B w' v' (zs ++ ys) ∧ w.grownBy w' v.ownBlock ∧ (v'.ownBlock = v.ownBlock ∨ v'.ownBlock = some w.heap.size) := by
  obtain ⟨i0, hi, hz0, hz1, hz2⟩ := info_parts pai_info
  rcases hys with ⟨⟨p, c, rfl, hpc⟩, rfl⟩ | ⟨g, o', c, rfl, _, _, _, hc⟩
  · cases p with
    | none =>
      obtain rfl := hpc rfl
      exact ⟨v, w, run_append_owned_none (P := Tryd.prog) (w := w) B 46 ty 62 i0 2 Tryd.underlying46 hi v zs.length (zs.flatMap Pai.vals) hown, by rw [List.append_nil]; exact hown, World.grownBy.refl _ _, .inl rfl⟩
    | some ad =>
      obtain ⟨v', w', hr, h2, h3, _, h5⟩ := run_append_own_at (P := Tryd.prog) w B 46 ty 62 i0 (.agg #[.int .i64 0, .int .i64 0]) 2 16 Tryd.underlying46 hi hz0 hz1 hz2 rfl (by decide) v zs.length (zs.flatMap Pai.vals) hown ad 0 c [] (by simp) (by simp) (by simp) (by simp only [maxLen]; omega) (by omega) hB
      refine ⟨v', w', hr, ?_, h3, h5⟩
      rw [List.append_nil]
      unfold OwnPai
      simpa using h2
  · obtain ⟨v', w', hr, h2, h3, _, h5⟩ := run_append_own_at (P := Tryd.prog) w B 46 ty 62 i0 (.agg #[.int .i64 0, .int .i64 0]) 2 16 Tryd.underlying46 hi hz0 hz1 hz2 rfl (by decide) v zs.length (zs.flatMap Pai.vals) hown ⟨g, o', none⟩ ys.length c (ys.flatMap Pai.vals) (pai_flat_len ys) (by
      intro t y hy
      have ht : t < ys.length * 2 := by rw [← pai_flat_len ys]; exact (List.getElem?_eq_some_iff.1 hy).1
      have hk : t / 2 < ys.length := by omega
      have hr : t % 2 < 2 := Nat.mod_lt _ (by decide)
      have e : t = t / 2 * 2 + t % 2 := by omega
      have hcc := hc (t / 2) hk
      rw [e, pai_flat_get ys _ _ hk hr] at hy
      rw [add_plain, e]
      generalize t / 2 = k at hcc hy
      generalize t % 2 = j at hr hy
      obtain ⟨c0, c1⟩ := hcc
      match j, hr, hy with
      | 0, _, hy => simp [Pai.vals] at hy; subst hy; simpa [Nat.add_assoc] using c0
      | 1, _, hy => simp [Pai.vals] at hy; subst hy; simpa [Nat.add_assoc] using c1) (pai_vals_one ys) (by simp only [maxLen]; omega) (by omega) hB
    refine ⟨v', w', hr, ?_, h3, h5⟩
    unfold OwnPai
    rw [List.length_append, List.flatMap_append]
    exact h2
/-- Some are put behind a slice of the call's own. -/
theorem append_pais {ops : Array Oper} {rest : List Oper} {o : Oper} {a : Act} {Q : Exit → Act → World → Prop} (hgd : o.guard = none) (s x : Operand)
    (ho : o.op = .call { callee := .builtin .append, args := #[s, x], argTypes := #[46, 46] }) {B base : Nat} {w : World} {v u : Value} {zs ys : List Pai}
    (hB : B ≤ w.heap.size) (hown : OwnPai B w v zs) (hs : a.eval s = v) (hys : Pais base w u ys) (hx : a.eval x = u) (hl : zs.length + ys.length ≤ 1000000)
    (h : ∀ v' w', OwnPai B w' v' (zs ++ ys) → w.grownBy w' v.ownBlock → (v'.ownBlock = v.ownBlock ∨ v'.ownBlock = some w.heap.size) → wpList Tryd.prog ops Q rest (a.put o.dst v') w') :
    wpList Tryd.prog ops Q (o :: rest) a w := by
  refine wpList_plain hgd fun K hK => ?_
  obtain ⟨v', w', hr, h2, h3, h5⟩ := run_append_pais o.type hB hown hys hl
  unfold Oper.wp execOp
  simp only [ho, resolve, invoke, builtin, Sem.run_bind, Sem.run_pure, Result.andThen_ok, List.map_toArray, List.map_cons, List.map_nil, hs, hx, hr]
  exact hK _ _ (h v' w' h2 h3 h5)
/-- The same, as one step of a region that draws its order. -/
theorem step_append_pais {ops : Array Oper} {o : Oper} {a : Act} {w : World} {K : Act → World → Prop} {Q : Exit → Act → World → Prop} {E : Prop} (hgd : o.guard = none) (s x : Operand)
    (ho : o.op = .call { callee := .builtin .append, args := #[s, x], argTypes := #[46, 46] }) {B base : Nat} {v u : Value} {zs ys : List Pai}
    (hB : B ≤ w.heap.size) (hown : OwnPai B w v zs) (hs : a.eval s = v) (hys : Pais base w u ys) (hx : a.eval x = u) (hl : zs.length + ys.length ≤ 1000000)
    (hK : ∀ v' w', OwnPai B w' v' (zs ++ ys) → w.grownBy w' v.ownBlock → (v'.ownBlock = v.ownBlock ∨ v'.ownBlock = some w.heap.size) → K (a.put o.dst v') w') :
    if Region.wanted o (yielded ops a.tmps) = true then Oper.wp Tryd.prog o a w K Q else E := by
  rw [if_pos (by simp [Region.wanted, hgd])]
  obtain ⟨v', w', hr, h2, h3, h5⟩ := run_append_pais o.type hB hown hys hl
  unfold Oper.wp
  simp [execOp, ho, resolve, invoke, builtin, hs, hx, hr, Result.andThen]
  exact hK v' w' h2 h3 h5
theorem OwnPai.lay {B : Nat} {w X : World} {v : Value} {zs : List Pai} (h : OwnPai B w v zs) (hx : X.heap = w.heap) (o : Obj) : OwnPai B (X.alloc o) v zs := by
  have h1 : OwnPai B X v zs := by
    unfold OwnPai World.ownsRow at *
    rw [hx]
    exact h
  exact World.ownsRow.alloc h1 o
theorem ownPai_empty {B : Nat} {W : World} {g : Nat} (hB : B ≤ g) (h : W.heap[g]? = some (.cells #[] 62)) : OwnPai B W (.slice (some ⟨g, 0, none⟩) 0 0) [] :=
  ⟨rfl, .inr ⟨g, 0, #[], rfl, hB, h, Nat.le_refl _, by simp [maxLen], rfl, rfl⟩⟩
/-- One that is typed out. -/
theorem pai_at {X : World} {g : Nat} (c : Pai) (h : X.heap[g]? = some (.cells #[.int .i64 c.k, .int .i64 c.v] 62)) : Pais 0 X (.slice (some ⟨g, 0, none⟩) 1 1) [c] := by
  refine .inr ⟨g, 0, 1, rfl, Nat.zero_le _, heap_lt h, by simp, fun k hk => ?_⟩
  have : k = 0 := by simpa using hk
  subst this
  simp only [World.cell?, h]
  simp
theorem pai_lit (c : Pai) (X : World) : Pais 0 (X.alloc (.cells #[.int .i64 c.k, .int .i64 c.v] 62)) (.slice (some ⟨X.heap.size, 0, none⟩) 1 1) [c] := pai_at c (heap_alloc_at _ _ _ rfl)

theorem pai_flat : flatB Tryd.prog 8 62 = true := by kernel_rfl
theorem pai_cells : Tryd.prog.cellsOf 62 = 2 := by kernel_rfl
section
variable {H : Type} {enc : TypeId × Value → H} {w : World}
set_option maxRecDepth 100000 in
theorem open_pais {r : Reach} {b0 : Nat} {v : Value} {d : DataW H} {p : List MemPlace} (hv : Value.okWide Tryd.prog w r b0 46 v) (h : DataW.Trod enc Tryd.prog w 0 (fun _ => true) true 46 v d p) : ∃ xs, (∃ p c, v = .slice p xs.length c ∧ xs.length ≤ c) ∧ Pais 0 w v xs ∧ ∀ x ∈ xs, Pai.ok x := by
  obtain ⟨q, len, cap, G, rfl, hqc, hlc, hl, hG, hc⟩ := open_flat Tryd.underlying46 pai_flat (by rw [pai_cells]; decide) hv h
  rw [pai_cells] at hc
  have hlen : ((List.range len).map fun k => (⟨G k 0, G k 1⟩ : Pai)).length = len := by simp
  refine ⟨(List.range len).map fun k => ⟨G k 0, G k 1⟩, ⟨q, cap, by rw [hlen], by rw [hlen]; exact hlc⟩, ?_, fun x hx => ?_⟩
  · by_cases h0 : len = 0
    · subst h0
      exact .inl ⟨⟨_, _, rfl, hqc⟩, rfl⟩
    · obtain ⟨g, o, hq, hg, _⟩ := hc 0 (by omega)
      subst hq
      refine .inr ⟨g, o, cap, by rw [hlen], Nat.zero_le _, hg, by rw [hlen]; exact hl, fun k hk => ?_⟩
      rw [hlen] at hk
      obtain ⟨g', o', hq, _, hcc⟩ := hc k hk
      simp only [Option.some.injEq, Addr.mk.injEq, and_true] at hq
      obtain ⟨rfl, rfl⟩ := hq
      have hget : ((List.range len).map fun k => (⟨G k 0, G k 1⟩ : Pai)).getD k Pai.zero = ⟨G k 0, G k 1⟩ := by simp [List.getD_eq_getElem?_getD, hk]
      rw [hget]
      exact ⟨hcc 0 (by omega), hcc 1 (by omega)⟩
  · obtain ⟨k, _, rfl⟩ := List.mem_map.1 hx
    exact ⟨hG k 0, hG k 1⟩
set_option maxRecDepth 100000 in
theorem open_pai {r : Reach} {b0 : Nat} {v : Value} {d : DataW H} {p : List MemPlace} {base : Nat} {spare : Nat → Bool} {held : Bool} (hv : Value.okWide Tryd.prog w r b0 62 v) (h : DataW.Trod enc Tryd.prog w base spare held 62 v d p) : ∃ x : Pai, Pai.ok x ∧ v = .agg #[.int .i64 x.k, .int .i64 x.v] := by
  obtain ⟨G, hG, hv'⟩ := open_flat1 Tryd.underlying62 pai_flat hv h
  rw [pai_cells] at hv'
  exact ⟨⟨G 0, G 1⟩, ⟨hG 0, hG 1⟩, hv'⟩
end
end Go.Proofs.YtoakpmbiplmpbaaDoor.F
