/-
  Contracts of small functions, several texts laid into one. Not a statement of the seat.
-/
import Derived.Test.YtmgkpabagpgilaaHead2
import Derived.Test.YtmgkpabagpgilaaFOpr
import Derived.BigQuiet
import Derived.Deep.QuietTactic
namespace Go.Proofs.Ytmgkpabagpgilaa.F
open Go.ChangeShapes Go.WideShapes Go.ChangeAt Go.RowKit Base
/-- A value of the struct. -/
structure Ver where
  t : Int
  k : Int
  n : Int
def Ver.zero : Ver := ⟨0, 0, 0⟩
/-- Its cells. -/
def Ver.vals (x : Ver) : List Value := [.int .i64 x.t, .int .i64 x.k, .int .i64 x.n]
/-- Its fields are ints of 64 bits. -/
def Ver.ok (x : Ver) : Prop := (-9223372036854775808 ≤ x.t ∧ x.t ≤ 9223372036854775807) ∧ (-9223372036854775808 ≤ x.k ∧ x.k ≤ 9223372036854775807) ∧ (-9223372036854775808 ≤ x.n ∧ x.n ≤ 9223372036854775807)
/-- The slice v, whose elements lie from block base on, holds xs. -/
def Vers (base : Nat) (w : World) (v : Value) (xs : List Ver) : Prop :=
  ((∃ p c, v = .slice p 0 c ∧ (p = none → c = 0)) ∧ xs = []) ∨ ∃ g o c, v = .slice (some ⟨g, o, none⟩) xs.length c ∧ base ≤ g ∧ g < w.heap.size ∧ xs.length ≤ 9223372036854775807 ∧ ∀ k, k < xs.length →
    w.cell? ⟨g, o + k * 3, none⟩ = some (.int .i64 (xs.getD k Ver.zero).t) ∧ w.cell? ⟨g, o + k * 3 + 1, none⟩ = some (.int .i64 (xs.getD k Ver.zero).k) ∧ w.cell? ⟨g, o + k * 3 + 2, none⟩ = some (.int .i64 (xs.getD k Ver.zero).n)
theorem Vers.kept {base base' : Nat} {w w1 : World} {v : Value} {xs : List Ver} (h : Vers base w v xs) (hb : ∀ g, base ≤ g → g < w.heap.size → w1.heap[g]? = w.heap[g]? ∧ base' ≤ g) (hs : w.heap.size ≤ w1.heap.size) : Vers base' w1 v xs := by
  rcases h with h | ⟨g, o, c, hv, h0, h1, h2, h3⟩
  · exact .inl h
  · refine .inr ⟨g, o, c, hv, (hb g h0 h1).2, Nat.lt_of_lt_of_le h1 hs, h2, fun k hk => ?_⟩
    have key : ∀ j, w1.cell? ⟨g, j, none⟩ = w.cell? ⟨g, j, none⟩ := fun j => World.cell?_of_block (a := ⟨g, j, none⟩) (hb g h0 h1).1
    simp only [key]
    exact h3 k hk
theorem Vers.below {base : Nat} {w w1 : World} {v : Value} {xs : List Ver} (h : Vers base w v xs) (hb : Below w.heap.size w w1) : Vers base w1 v xs :=
  h.kept (fun g h0 h1 => ⟨hb.block g h1, h0⟩) hb.size
theorem Vers.grown {base : Nat} {w w1 : World} {v : Value} {xs : List Ver} {x : Option Nat} (h : Vers base w v xs) (hg : w.grownBy w1 x) (hx : ∀ b, x = some b → b < base) : Vers base w1 v xs :=
  h.kept (fun g h0 h1 => ⟨hg.block g h1 (fun e => by have := hx g e.symm; omega), h0⟩) hg.size
theorem Vers.mono {base base' : Nat} {w : World} {v : Value} {xs : List Ver} (h : Vers base w v xs) (hb : base' ≤ base) : Vers base' w v xs :=
  h.kept (fun _ h0 _ => ⟨rfl, Nat.le_trans hb h0⟩) (Nat.le_refl _)
theorem Vers.open_ {base : Nat} {w : World} {v : Value} {xs : List Ver} (h : Vers base w v xs) : ∃ p c, v = .slice p xs.length c ∧ xs.length ≤ 9223372036854775807 ∧ ∀ k, k < xs.length → ∃ g o, p = some ⟨g, o, none⟩ ∧ base ≤ g ∧ g < w.heap.size ∧
    w.cell? ⟨g, o + k * 3, none⟩ = some (.int .i64 (xs.getD k Ver.zero).t) ∧ w.cell? ⟨g, o + k * 3 + 1, none⟩ = some (.int .i64 (xs.getD k Ver.zero).k) ∧ w.cell? ⟨g, o + k * 3 + 2, none⟩ = some (.int .i64 (xs.getD k Ver.zero).n) := by
  rcases h with ⟨⟨p, c, hv⟩, rfl⟩ | ⟨g, o, c, hv, h0, h1, h2, h3⟩
  · exact ⟨p, c, hv.1, by simp, fun k hk => absurd hk (by simp)⟩
  · exact ⟨_, c, hv, h2, fun k hk => ⟨g, o, rfl, h0, h1, h3 k hk⟩⟩
theorem Vers.nil {base : Nat} {w : World} : Vers base w (.slice none 0 0) [] := .inl ⟨⟨_, _, rfl, fun _ => rfl⟩, rfl⟩
theorem ver_flat_len (zs : List Ver) : (zs.flatMap Ver.vals).length = zs.length * 3 := by
  induction zs with
  | nil => rfl
  | cons x zs ih => rw [List.flatMap_cons, List.length_append, ih]; simp [Ver.vals]; omega
theorem ver_flat_get : ∀ (zs : List Ver) (k j : Nat), k < zs.length → j < 3 → (zs.flatMap Ver.vals)[k * 3 + j]? = (Ver.vals (zs.getD k Ver.zero))[j]?
  | x :: zs, 0, j, _, hj => by
    rw [List.flatMap_cons, List.getElem?_append_left (by simp [Ver.vals]; omega)]
    simp
  | x :: zs, k + 1, j, hk, hj => by
    rw [List.flatMap_cons, List.getElem?_append_right (by simp [Ver.vals]; omega), show (k + 1) * 3 + j - (Ver.vals x).length = k * 3 + j by simp [Ver.vals]; omega, ver_flat_get zs k j (by simpa using hk) hj]
    rfl
theorem ver_flat_take (zs : List Ver) (m : Nat) : (zs.flatMap Ver.vals).take (m * 3) = (zs.take m).flatMap Ver.vals := by
  induction zs generalizing m with
  | nil => simp
  | cons x zs ih =>
    cases m with
    | zero => simp
    | succ m =>
      rw [List.flatMap_cons, List.take_succ_cons, List.flatMap_cons, ← ih m, List.take_append, List.take_of_length_le (by simp [Ver.vals]; omega)]
      congr 2
      simp [Ver.vals]; omega
theorem ver_vals_one (zs : List Ver) : ∀ u ∈ zs.flatMap Ver.vals, u.oneCell' = true := by
  intro u hu
  obtain ⟨x, _, hx⟩ := List.mem_flatMap.1 hu
  simp only [Ver.vals, List.mem_cons, List.not_mem_nil, or_false] at hx
  rcases hx with rfl | rfl | rfl <;> rfl
/-- The slice v, which the call made itself from block B on, holds zs. -/
def OwnVer (B : Nat) (w : World) (v : Value) (zs : List Ver) : Prop := w.ownsRow B 80 3 v zs.length (zs.flatMap Ver.vals)
theorem OwnVer.nil (B : Nat) (w : World) : OwnVer B w (.slice none 0 0) [] := World.ownsRow_nil _ _ _ _
theorem OwnVer.list {B : Nat} {w : World} {v : Value} {zs : List Ver} (h : OwnVer B w v zs) (hl : zs.length ≤ 9223372036854775807) : Vers B w v zs := by
  have h' := h
  rcases h.2 with ⟨hv, h0⟩ | ⟨g, cap, cur, hv, hB, h2, _⟩
  · exact .inl ⟨⟨_, _, hv, fun _ => rfl⟩, List.length_eq_zero_iff.1 h0⟩
  · subst hv
    have hc : ∀ k j, k < zs.length → j < 3 → w.cell? ⟨g, 0 + k * 3 + j, none⟩ = (Ver.vals (zs.getD k Ver.zero))[j]? := fun k j hk hj => by
      rw [Nat.zero_add, ← ver_flat_get zs k j hk hj]
      exact World.ownsRow.cellAt h' (k * 3 + j) (by omega)
    exact .inr ⟨g, 0, cap, rfl, hB, heap_lt h2, hl, fun k hk => ⟨hc k 0 hk (by omega), hc k 1 hk (by omega), hc k 2 hk (by omega)⟩⟩
theorem OwnVer.kept {B : Nat} {w w1 : World} {v : Value} {zs : List Ver} (h : OwnVer B w v zs) {row : Option Nat} (hg : w.grownBy w1 row) (hne : v.ownBlock = none ∨ v.ownBlock ≠ row) : OwnVer B w1 v zs := World.ownsRow.kept h hg hne
theorem OwnVer.below {B : Nat} {w w1 : World} {v : Value} {zs : List Ver} (h : OwnVer B w v zs) (hb : Below w.heap.size w w1) : OwnVer B w1 v zs :=
  World.ownsRow.kept h (row := none) ⟨hb.os, hb.tape, hb.output, hb.size, fun k hk _ => hb.block k hk⟩ (by cases v.ownBlock <;> simp)
theorem OwnVer.base {B : Nat} {w : World} {v : Value} {zs : List Ver} (h : OwnVer B w v zs) : ∀ k, v.ownBlock = some k → B ≤ k ∧ k < w.heap.size := World.ownsRow.lt h
/-- The first m of it, in the same place. -/
theorem OwnVer.cut {B : Nat} {w : World} {p : Option Addr} {n c : Nat} {zs : List Ver} (h : OwnVer B w (.slice p n c) zs) {m : Nat} (hm : m ≤ zs.length) : OwnVer B w (.slice p m c) (zs.take m) := by
  obtain ⟨hl, h⟩ := h
  have hlen : (zs.take m).length = m := by rw [List.length_take]; omega
  refine ⟨by rw [ver_flat_len], ?_⟩
  rw [hlen]
  rcases h with ⟨hv, h0⟩ | ⟨g, cap, cur, hv, h1, h2, h3, h4, h5, h6⟩
  · injection hv with e1 e2 e3
    subst e1 e3
    obtain rfl : m = 0 := by omega
    exact .inl ⟨rfl, rfl⟩
  · injection hv with e1 e2 e3
    subst e1 e3
    refine .inr ⟨g, c, cur, rfl, h1, h2, by omega, h4, h5, ?_⟩
    rw [← ver_flat_take, ← h6, List.take_take]
    congr 1
    have := Nat.mul_le_mul_right 3 hm
    omega
theorem ver_info : (Try.prog.info? 80).map (fun i => (i.zero, i.size, i.bytes)) = some (some (.agg #[.int .i64 0, .int .i64 0, .int .i64 0]), 3, 24) := by kernel_rfl
theorem run_append_vers {B base : Nat} {w : World} {v u : Value} {zs ys : List Ver} (ty : TypeId)
    (hB : B ≤ w.heap.size) (hown : OwnVer B w v zs) (hys : Vers base w u ys) (hl : zs.length + ys.length ≤ 1000000) :
    ∃ v' w', (Builtin.append_ #[78, 78] ty #[v, u]).run Try.prog w = .ok v' w' ∧ OwnVer B w' v' (zs ++ ys) ∧ w.grownBy w' v.ownBlock ∧ (v'.ownBlock = v.ownBlock ∨ v'.ownBlock = some w.heap.size) := by
  obtain ⟨i0, hi, hz0, hz1, hz2⟩ := info_parts ver_info
  rcases hys with ⟨⟨p, c, rfl, hpc⟩, rfl⟩ | ⟨g, o', c, rfl, _, _, _, hc⟩
  · cases p with
    | none =>
      obtain rfl := hpc rfl
      exact ⟨v, w, run_append_owned_none (P := Try.prog) (w := w) B 78 ty 80 i0 3 Try.underlying78 hi v zs.length (zs.flatMap Ver.vals) hown, by rw [List.append_nil]; exact hown, World.grownBy.refl _ _, .inl rfl⟩
    | some ad =>
      obtain ⟨v', w', hr, h2, h3, _, h5⟩ := run_append_own_at (P := Try.prog) w B 78 ty 80 i0 (.agg #[.int .i64 0, .int .i64 0, .int .i64 0]) 3 24 Try.underlying78 hi hz0 hz1 hz2 rfl (by decide) v zs.length (zs.flatMap Ver.vals) hown ad 0 c [] (by simp) (by simp) (by simp) (by simp only [maxLen]; omega) (by omega) hB
      refine ⟨v', w', hr, ?_, h3, h5⟩
      rw [List.append_nil]
      unfold OwnVer
      simpa using h2
  · obtain ⟨v', w', hr, h2, h3, _, h5⟩ := run_append_own_at (P := Try.prog) w B 78 ty 80 i0 (.agg #[.int .i64 0, .int .i64 0, .int .i64 0]) 3 24 Try.underlying78 hi hz0 hz1 hz2 rfl (by decide) v zs.length (zs.flatMap Ver.vals) hown ⟨g, o', none⟩ ys.length c (ys.flatMap Ver.vals) (ver_flat_len ys) (by
      intro t y hy
      have ht : t < ys.length * 3 := by rw [← ver_flat_len ys]; exact (List.getElem?_eq_some_iff.1 hy).1
      have hk : t / 3 < ys.length := by omega
      have hr : t % 3 < 3 := Nat.mod_lt _ (by decide)
      have e : t = t / 3 * 3 + t % 3 := by omega
      have hcc := hc (t / 3) hk
      rw [e, ver_flat_get ys _ _ hk hr] at hy
      rw [add_plain, e]
      generalize t / 3 = k at hcc hy
      generalize t % 3 = j at hr hy
      obtain ⟨c0, c1, c2⟩ := hcc
      match j, hr, hy with
      | 0, _, hy => simp [Ver.vals] at hy; subst hy; simpa [Nat.add_assoc] using c0
      | 1, _, hy => simp [Ver.vals] at hy; subst hy; simpa [Nat.add_assoc] using c1
      | 2, _, hy => simp [Ver.vals] at hy; subst hy; simpa [Nat.add_assoc] using c2) (ver_vals_one ys) (by simp only [maxLen]; omega) (by omega) hB
    refine ⟨v', w', hr, ?_, h3, h5⟩
    unfold OwnVer
    rw [List.length_append, List.flatMap_append]
    exact h2
/-- Some are put behind a slice of the call's own. -/
theorem append_vers {ops : Array Oper} {rest : List Oper} {o : Oper} {a : Act} {Q : Exit → Act → World → Prop} (hgd : o.guard = none) (s x : Operand)
    (ho : o.op = .call { callee := .builtin .append, args := #[s, x], argTypes := #[78, 78] }) {B base : Nat} {w : World} {v u : Value} {zs ys : List Ver}
    (hB : B ≤ w.heap.size) (hown : OwnVer B w v zs) (hs : a.eval s = v) (hys : Vers base w u ys) (hx : a.eval x = u) (hl : zs.length + ys.length ≤ 1000000)
    (h : ∀ v' w', OwnVer B w' v' (zs ++ ys) → w.grownBy w' v.ownBlock → (v'.ownBlock = v.ownBlock ∨ v'.ownBlock = some w.heap.size) → wpList Try.prog ops Q rest (a.put o.dst v') w') :
    wpList Try.prog ops Q (o :: rest) a w := by
  refine wpList_plain hgd fun K hK => ?_
  obtain ⟨v', w', hr, h2, h3, h5⟩ := run_append_vers o.type hB hown hys hl
  unfold Oper.wp execOp
  simp only [ho, resolve, invoke, builtin, Sem.run_bind, Sem.run_pure, Result.andThen_ok, List.map_toArray, List.map_cons, List.map_nil, hs, hx, hr]
  exact hK _ _ (h v' w' h2 h3 h5)
/-- The same, as one step of a region that draws its order. -/
theorem step_append_vers {ops : Array Oper} {o : Oper} {a : Act} {w : World} {K : Act → World → Prop} {Q : Exit → Act → World → Prop} {E : Prop} (hgd : o.guard = none) (s x : Operand)
    (ho : o.op = .call { callee := .builtin .append, args := #[s, x], argTypes := #[78, 78] }) {B base : Nat} {v u : Value} {zs ys : List Ver}
    (hB : B ≤ w.heap.size) (hown : OwnVer B w v zs) (hs : a.eval s = v) (hys : Vers base w u ys) (hx : a.eval x = u) (hl : zs.length + ys.length ≤ 1000000)
    (hK : ∀ v' w', OwnVer B w' v' (zs ++ ys) → w.grownBy w' v.ownBlock → (v'.ownBlock = v.ownBlock ∨ v'.ownBlock = some w.heap.size) → K (a.put o.dst v') w') :
    if Region.wanted o (yielded ops a.tmps) = true then Oper.wp Try.prog o a w K Q else E := by
  rw [if_pos (by simp [Region.wanted, hgd])]
  obtain ⟨v', w', hr, h2, h3, h5⟩ := run_append_vers o.type hB hown hys hl
  unfold Oper.wp
  simp [execOp, ho, resolve, invoke, builtin, hs, hx, hr, Result.andThen]
  exact hK v' w' h2 h3 h5
theorem OwnVer.lay {B : Nat} {w X : World} {v : Value} {zs : List Ver} (h : OwnVer B w v zs) (hx : X.heap = w.heap) (o : Obj) : OwnVer B (X.alloc o) v zs := by
  have h1 : OwnVer B X v zs := by
    unfold OwnVer World.ownsRow at *
    rw [hx]
    exact h
  exact World.ownsRow.alloc h1 o
theorem ownVer_empty {B : Nat} {W : World} {g : Nat} (hB : B ≤ g) (h : W.heap[g]? = some (.cells #[] 80)) : OwnVer B W (.slice (some ⟨g, 0, none⟩) 0 0) [] :=
  ⟨rfl, .inr ⟨g, 0, #[], rfl, hB, h, Nat.le_refl _, by simp [maxLen], rfl, rfl⟩⟩
/-- One that is typed out. -/
theorem ver_at {X : World} {g : Nat} (c : Ver) (h : X.heap[g]? = some (.cells #[.int .i64 c.t, .int .i64 c.k, .int .i64 c.n] 80)) : Vers 0 X (.slice (some ⟨g, 0, none⟩) 1 1) [c] := by
  refine .inr ⟨g, 0, 1, rfl, Nat.zero_le _, heap_lt h, by simp, fun k hk => ?_⟩
  have : k = 0 := by simpa using hk
  subst this
  simp only [World.cell?, h]
  simp
theorem ver_lit (c : Ver) (X : World) : Vers 0 (X.alloc (.cells #[.int .i64 c.t, .int .i64 c.k, .int .i64 c.n] 80)) (.slice (some ⟨X.heap.size, 0, none⟩) 1 1) [c] := ver_at c (heap_alloc_at _ _ _ rfl)

theorem ver_flat : flatB Try.prog 8 80 = true := by kernel_rfl
theorem ver_cells : Try.prog.cellsOf 80 = 3 := by kernel_rfl
section
variable {H : Type} {enc : TypeId × Value → H} {w : World}
set_option maxRecDepth 100000 in
theorem open_vers {r : Reach} {b0 : Nat} {v : Value} {d : DataW H} {p : List MemPlace} (hv : Value.okWide Try.prog w r b0 78 v) (h : DataW.Trod enc Try.prog w 0 (fun _ => true) true 78 v d p) : ∃ xs, (∃ p c, v = .slice p xs.length c ∧ xs.length ≤ c) ∧ Vers 0 w v xs ∧ ∀ x ∈ xs, Ver.ok x := by
  obtain ⟨q, len, cap, G, rfl, hqc, hlc, hl, hG, hc⟩ := open_flat Try.underlying78 ver_flat (by rw [ver_cells]; decide) hv h
  rw [ver_cells] at hc
  have hlen : ((List.range len).map fun k => (⟨G k 0, G k 1, G k 2⟩ : Ver)).length = len := by simp
  refine ⟨(List.range len).map fun k => ⟨G k 0, G k 1, G k 2⟩, ⟨q, cap, by rw [hlen], by rw [hlen]; exact hlc⟩, ?_, fun x hx => ?_⟩
  · by_cases h0 : len = 0
    · subst h0
      exact .inl ⟨⟨_, _, rfl, hqc⟩, rfl⟩
    · obtain ⟨g, o, hq, hg, _⟩ := hc 0 (by omega)
      subst hq
      refine .inr ⟨g, o, cap, by rw [hlen], Nat.zero_le _, hg, by rw [hlen]; exact hl, fun k hk => ?_⟩
      rw [hlen] at hk
      obtain ⟨g', o', hq, _, hcc⟩ := hc k hk
      simp only [Option.some.injEq, Addr.mk.injEq, and_true] at hq
      obtain ⟨rfl, rfl⟩ := hq
      have hget : ((List.range len).map fun k => (⟨G k 0, G k 1, G k 2⟩ : Ver)).getD k Ver.zero = ⟨G k 0, G k 1, G k 2⟩ := by simp [List.getD_eq_getElem?_getD, hk]
      rw [hget]
      exact ⟨hcc 0 (by omega), hcc 1 (by omega), hcc 2 (by omega)⟩
  · obtain ⟨k, _, rfl⟩ := List.mem_map.1 hx
    exact ⟨hG k 0, hG k 1, hG k 2⟩
set_option maxRecDepth 100000 in
theorem open_ver {r : Reach} {b0 : Nat} {v : Value} {d : DataW H} {p : List MemPlace} {base : Nat} {spare : Nat → Bool} {held : Bool} (hv : Value.okWide Try.prog w r b0 80 v) (h : DataW.Trod enc Try.prog w base spare held 80 v d p) : ∃ x : Ver, Ver.ok x ∧ v = .agg #[.int .i64 x.t, .int .i64 x.k, .int .i64 x.n] := by
  obtain ⟨G, hG, hv'⟩ := open_flat1 Try.underlying80 ver_flat hv h
  rw [ver_cells] at hv'
  exact ⟨⟨G 0, G 1, G 2⟩, ⟨hG 0, hG 1, hG 2⟩, hv'⟩
end
end Go.Proofs.Ytmgkpabagpgilaa.F
namespace Go.Proofs.Ytmgkpabagpgilaa.F
open Go.ChangeShapes Go.WideShapes Go.ChangeAt Go.RowKit Base
/-- Are two alike? -/
def Ver.beq (x y : Ver) : Bool := decide (x.t = y.t) && decide (x.k = y.k) && decide (x.n = y.n)
theorem Ver.beq_iff (x y : Ver) : Ver.beq x y = true ↔ x = y := by
  unfold Ver.beq
  constructor
  · intro h
    simp only [Bool.and_eq_true, decide_eq_true_eq] at h
    cases x; cases y
    simp_all
  · intro h
    subst h
    simp
theorem Ver.beq_self (x : Ver) : Ver.beq x x = true := (Ver.beq_iff x x).2 rfl
set_option maxHeartbeats 4000000 in
theorem eq_ver (x y : Ver) (w : World) : (binOp .eql 80 (.agg #[.int .i64 x.t, .int .i64 x.k, .int .i64 x.n]) (.agg #[.int .i64 y.t, .int .i64 y.k, .int .i64 y.n])).run Try.prog w = .ok (.bool (Ver.beq x y)) w := by
  have u3 := Try.underlying3
  have a3 := Try.isAgg3
  have z3 := Try.sizeOf3
  have hS : Try.prog.underlying 80 = some (.struct (Try.prog.fieldsOf 80)) := by kernel_rfl
  have hp : Try.prog.stoodInHeld 80 = false := by kernel_rfl
  rw [run_eql_struct, show (10000 : Nat) = 9999 + 1 from rfl, run_equalIn_agg w 9999 80 _ _ hS hp]
  simp only [Program.fieldsOf, Try.underlying80]
  go_simp
  obtain ⟨x0, x1, x2⟩ := x
  obtain ⟨y0, y1, y2⟩ := y
  unfold Ver.beq
  by_cases h0 : x0 = y0 <;> by_cases h1 : x1 = y1 <;> by_cases h2 : x2 = y2 <;> simp [h0, h1, h2]
set_option maxHeartbeats 4000000 in
theorem ne_ver (x y : Ver) (w : World) : (binOp .neq 80 (.agg #[.int .i64 x.t, .int .i64 x.k, .int .i64 x.n]) (.agg #[.int .i64 y.t, .int .i64 y.k, .int .i64 y.n])).run Try.prog w = .ok (.bool (!Ver.beq x y)) w := by
  have u3 := Try.underlying3
  have a3 := Try.isAgg3
  have z3 := Try.sizeOf3
  have hS : Try.prog.underlying 80 = some (.struct (Try.prog.fieldsOf 80)) := by kernel_rfl
  have hp : Try.prog.stoodInHeld 80 = false := by kernel_rfl
  rw [run_neq_struct, show (10000 : Nat) = 9999 + 1 from rfl, run_equalIn_agg w 9999 80 _ _ hS hp]
  simp only [Program.fieldsOf, Try.underlying80]
  go_simp
  obtain ⟨x0, x1, x2⟩ := x
  obtain ⟨y0, y1, y2⟩ := y
  unfold Ver.beq
  by_cases h0 : x0 = y0 <;> by_cases h1 : x1 = y1 <;> by_cases h2 : x2 = y2 <;> simp [h0, h1, h2]
end Go.Proofs.Ytmgkpabagpgilaa.F
namespace Go.Proofs.Ytmgkpabagpgilaa.F
open Go.ChangeShapes Go.WideShapes Go.ChangeAt Go.RowKit Base
/-- Are two alike? -/
def Opr.beq (x y : Opr) : Bool := decide (x.rd = y.rd) && decide (x.k = y.k) && decide (x.t = y.t) && decide (x.n = y.n)
theorem Opr.beq_iff (x y : Opr) : Opr.beq x y = true ↔ x = y := by
  unfold Opr.beq
  constructor
  · intro h
    simp only [Bool.and_eq_true, decide_eq_true_eq] at h
    cases x; cases y
    simp_all
  · intro h
    subst h
    simp
theorem Opr.beq_self (x : Opr) : Opr.beq x x = true := (Opr.beq_iff x x).2 rfl
set_option maxHeartbeats 4000000 in
theorem eq_opr (x y : Opr) (w : World) : (binOp .eql 45 (.agg #[.bool x.rd, .int .i64 x.k, .int .i64 x.t, .int .i64 x.n]) (.agg #[.bool y.rd, .int .i64 y.k, .int .i64 y.t, .int .i64 y.n])).run Try.prog w = .ok (.bool (Opr.beq x y)) w := by
  have u3 := Try.underlying3
  have a3 := Try.isAgg3
  have z3 := Try.sizeOf3
  have u4 := Try.underlying4
  have a4 := Try.isAgg4
  have z4 := Try.sizeOf4
  have hS : Try.prog.underlying 45 = some (.struct (Try.prog.fieldsOf 45)) := by kernel_rfl
  have hp : Try.prog.stoodInHeld 45 = false := by kernel_rfl
  rw [run_eql_struct, show (10000 : Nat) = 9999 + 1 from rfl, run_equalIn_agg w 9999 45 _ _ hS hp]
  simp only [Program.fieldsOf, Try.underlying45]
  go_simp
  obtain ⟨x0, x1, x2, x3⟩ := x
  obtain ⟨y0, y1, y2, y3⟩ := y
  unfold Opr.beq
  by_cases h0 : x0 = y0 <;> by_cases h1 : x1 = y1 <;> by_cases h2 : x2 = y2 <;> by_cases h3 : x3 = y3 <;> simp [h0, h1, h2, h3]
set_option maxHeartbeats 4000000 in
theorem ne_opr (x y : Opr) (w : World) : (binOp .neq 45 (.agg #[.bool x.rd, .int .i64 x.k, .int .i64 x.t, .int .i64 x.n]) (.agg #[.bool y.rd, .int .i64 y.k, .int .i64 y.t, .int .i64 y.n])).run Try.prog w = .ok (.bool (!Opr.beq x y)) w := by
  have u3 := Try.underlying3
  have a3 := Try.isAgg3
  have z3 := Try.sizeOf3
  have u4 := Try.underlying4
  have a4 := Try.isAgg4
  have z4 := Try.sizeOf4
  have hS : Try.prog.underlying 45 = some (.struct (Try.prog.fieldsOf 45)) := by kernel_rfl
  have hp : Try.prog.stoodInHeld 45 = false := by kernel_rfl
  rw [run_neq_struct, show (10000 : Nat) = 9999 + 1 from rfl, run_equalIn_agg w 9999 45 _ _ hS hp]
  simp only [Program.fieldsOf, Try.underlying45]
  go_simp
  obtain ⟨x0, x1, x2, x3⟩ := x
  obtain ⟨y0, y1, y2, y3⟩ := y
  unfold Opr.beq
  by_cases h0 : x0 = y0 <;> by_cases h1 : x1 = y1 <;> by_cases h2 : x2 = y2 <;> by_cases h3 : x3 = y3 <;> simp [h0, h1, h2, h3]
end Go.Proofs.Ytmgkpabagpgilaa.F
namespace Go.Proofs.Ytmgkpabagpgilaa.Op
open Go.ChangeShapes Go.WideShapes Go.ChangeAt Go.RowKit Base F Go.Lib
/-- Are two lists one? -/
def sameO : List Opr → List Opr → Bool
  | [], [] => true
  | x :: xs, y :: ys => Opr.beq x y && sameO xs ys
  | _, _ => false
theorem sameO_iff : ∀ (xs ys : List Opr), sameO xs ys = true ↔ xs = ys
  | [], [] => by simp [sameO]
  | [], y :: ys => by simp [sameO]
  | x :: xs, [] => by simp [sameO]
  | x :: xs, y :: ys => by
    simp only [sameO, Bool.and_eq_true, Opr.beq_iff, sameO_iff xs ys, List.cons.injEq]
theorem sameO_len {xs ys : List Opr} (h : xs.length ≠ ys.length) : sameO xs ys = false := by
  rw [Bool.eq_false_iff]
  intro e
  exact h (by rw [(sameO_iff xs ys).1 e])
theorem sameO_at {xs ys : List Opr} {k : Nat} (h : Opr.beq (xs.getD k Opr.zero) (ys.getD k Opr.zero) = false) : sameO xs ys = false := by
  rw [Bool.eq_false_iff]
  intro e
  rw [(sameO_iff xs ys).1 e, Opr.beq_self] at h
  cases h
theorem sameO_all {xs ys : List Opr} (hl : xs.length = ys.length) (h : ∀ k, k < xs.length → Opr.beq (xs.getD k Opr.zero) (ys.getD k Opr.zero) = true) : sameO xs ys = true := by
  rw [sameO_iff]
  apply List.ext_getElem hl
  intro k h1 h2
  have := (Opr.beq_iff _ _).1 (h k h1)
  rw [List.getD_eq_getElem?_getD, List.getD_eq_getElem?_getD, List.getElem?_eq_getElem h1, List.getElem?_eq_getElem h2] at this
  exact this
end Go.Proofs.Ytmgkpabagpgilaa.Op
namespace Go.Proofs.Ytmgkpabagpgilaa.F
open Go.ChangeShapes Go.WideShapes Go.ChangeAt Go.RowKit Base
/-- A value of the struct. -/
structure Bad where
  tx : Int
  pl : Int
  t : Int
  k : Int
  n : Int
def Bad.zero : Bad := ⟨0, 0, 0, 0, 0⟩
/-- Its cells. -/
def Bad.vals (x : Bad) : List Value := [.int .i64 x.tx, .int .i64 x.pl, .int .i64 x.t, .int .i64 x.k, .int .i64 x.n]
/-- Its fields are ints of 64 bits. -/
def Bad.ok (x : Bad) : Prop := (-9223372036854775808 ≤ x.tx ∧ x.tx ≤ 9223372036854775807) ∧ (-9223372036854775808 ≤ x.pl ∧ x.pl ≤ 9223372036854775807) ∧ (-9223372036854775808 ≤ x.t ∧ x.t ≤ 9223372036854775807) ∧ (-9223372036854775808 ≤ x.k ∧ x.k ≤ 9223372036854775807) ∧ (-9223372036854775808 ≤ x.n ∧ x.n ≤ 9223372036854775807)
/-- The slice v, whose elements lie from block base on, holds xs. -/
def Bads (base : Nat) (w : World) (v : Value) (xs : List Bad) : Prop :=
  ((∃ p c, v = .slice p 0 c ∧ (p = none → c = 0)) ∧ xs = []) ∨ ∃ g o c, v = .slice (some ⟨g, o, none⟩) xs.length c ∧ base ≤ g ∧ g < w.heap.size ∧ xs.length ≤ 9223372036854775807 ∧ ∀ k, k < xs.length →
    w.cell? ⟨g, o + k * 5, none⟩ = some (.int .i64 (xs.getD k Bad.zero).tx) ∧ w.cell? ⟨g, o + k * 5 + 1, none⟩ = some (.int .i64 (xs.getD k Bad.zero).pl) ∧ w.cell? ⟨g, o + k * 5 + 2, none⟩ = some (.int .i64 (xs.getD k Bad.zero).t) ∧ w.cell? ⟨g, o + k * 5 + 3, none⟩ = some (.int .i64 (xs.getD k Bad.zero).k) ∧ w.cell? ⟨g, o + k * 5 + 4, none⟩ = some (.int .i64 (xs.getD k Bad.zero).n)
theorem Bads.kept {base base' : Nat} {w w1 : World} {v : Value} {xs : List Bad} (h : Bads base w v xs) (hb : ∀ g, base ≤ g → g < w.heap.size → w1.heap[g]? = w.heap[g]? ∧ base' ≤ g) (hs : w.heap.size ≤ w1.heap.size) : Bads base' w1 v xs := by
  rcases h with h | ⟨g, o, c, hv, h0, h1, h2, h3⟩
  · exact .inl h
  · refine .inr ⟨g, o, c, hv, (hb g h0 h1).2, Nat.lt_of_lt_of_le h1 hs, h2, fun k hk => ?_⟩
    have key : ∀ j, w1.cell? ⟨g, j, none⟩ = w.cell? ⟨g, j, none⟩ := fun j => World.cell?_of_block (a := ⟨g, j, none⟩) (hb g h0 h1).1
    simp only [key]
    exact h3 k hk
theorem Bads.below {base : Nat} {w w1 : World} {v : Value} {xs : List Bad} (h : Bads base w v xs) (hb : Below w.heap.size w w1) : Bads base w1 v xs :=
  h.kept (fun g h0 h1 => ⟨hb.block g h1, h0⟩) hb.size
theorem Bads.grown {base : Nat} {w w1 : World} {v : Value} {xs : List Bad} {x : Option Nat} (h : Bads base w v xs) (hg : w.grownBy w1 x) (hx : ∀ b, x = some b → b < base) : Bads base w1 v xs :=
  h.kept (fun g h0 h1 => ⟨hg.block g h1 (fun e => by have := hx g e.symm; omega), h0⟩) hg.size
theorem Bads.mono {base base' : Nat} {w : World} {v : Value} {xs : List Bad} (h : Bads base w v xs) (hb : base' ≤ base) : Bads base' w v xs :=
  h.kept (fun _ h0 _ => ⟨rfl, Nat.le_trans hb h0⟩) (Nat.le_refl _)
theorem Bads.open_ {base : Nat} {w : World} {v : Value} {xs : List Bad} (h : Bads base w v xs) : ∃ p c, v = .slice p xs.length c ∧ xs.length ≤ 9223372036854775807 ∧ ∀ k, k < xs.length → ∃ g o, p = some ⟨g, o, none⟩ ∧ base ≤ g ∧ g < w.heap.size ∧
    w.cell? ⟨g, o + k * 5, none⟩ = some (.int .i64 (xs.getD k Bad.zero).tx) ∧ w.cell? ⟨g, o + k * 5 + 1, none⟩ = some (.int .i64 (xs.getD k Bad.zero).pl) ∧ w.cell? ⟨g, o + k * 5 + 2, none⟩ = some (.int .i64 (xs.getD k Bad.zero).t) ∧ w.cell? ⟨g, o + k * 5 + 3, none⟩ = some (.int .i64 (xs.getD k Bad.zero).k) ∧ w.cell? ⟨g, o + k * 5 + 4, none⟩ = some (.int .i64 (xs.getD k Bad.zero).n) := by
  rcases h with ⟨⟨p, c, hv⟩, rfl⟩ | ⟨g, o, c, hv, h0, h1, h2, h3⟩
  · exact ⟨p, c, hv.1, by simp, fun k hk => absurd hk (by simp)⟩
  · exact ⟨_, c, hv, h2, fun k hk => ⟨g, o, rfl, h0, h1, h3 k hk⟩⟩
theorem Bads.nil {base : Nat} {w : World} : Bads base w (.slice none 0 0) [] := .inl ⟨⟨_, _, rfl, fun _ => rfl⟩, rfl⟩
theorem bad_flat_len (zs : List Bad) : (zs.flatMap Bad.vals).length = zs.length * 5 := by
  induction zs with
  | nil => rfl
  | cons x zs ih => rw [List.flatMap_cons, List.length_append, ih]; simp [Bad.vals]; omega
theorem bad_flat_get : ∀ (zs : List Bad) (k j : Nat), k < zs.length → j < 5 → (zs.flatMap Bad.vals)[k * 5 + j]? = (Bad.vals (zs.getD k Bad.zero))[j]?
  | x :: zs, 0, j, _, hj => by
    rw [List.flatMap_cons, List.getElem?_append_left (by simp [Bad.vals]; omega)]
    simp
  | x :: zs, k + 1, j, hk, hj => by
    rw [List.flatMap_cons, List.getElem?_append_right (by simp [Bad.vals]; omega), show (k + 1) * 5 + j - (Bad.vals x).length = k * 5 + j by simp [Bad.vals]; omega, bad_flat_get zs k j (by simpa using hk) hj]
    rfl
theorem bad_flat_take (zs : List Bad) (m : Nat) : (zs.flatMap Bad.vals).take (m * 5) = (zs.take m).flatMap Bad.vals := by
  induction zs generalizing m with
  | nil => simp
  | cons x zs ih =>
    cases m with
    | zero => simp
    | succ m =>
      rw [List.flatMap_cons, List.take_succ_cons, List.flatMap_cons, ← ih m, List.take_append, List.take_of_length_le (by simp [Bad.vals]; omega)]
      congr 2
      simp [Bad.vals]; omega
theorem bad_vals_one (zs : List Bad) : ∀ u ∈ zs.flatMap Bad.vals, u.oneCell' = true := by
  intro u hu
  obtain ⟨x, _, hx⟩ := List.mem_flatMap.1 hu
  simp only [Bad.vals, List.mem_cons, List.not_mem_nil, or_false] at hx
  rcases hx with rfl | rfl | rfl | rfl | rfl <;> rfl
section
variable {H : Type} {enc : TypeId × Value → H} {w : World}
end
end Go.Proofs.Ytmgkpabagpgilaa.F
namespace Go.Proofs.Ytmgkpabagpgilaa.F
open Go.ChangeShapes Go.WideShapes Go.ChangeAt Go.RowKit Base
/-- Are two alike? -/
def Bad.beq (x y : Bad) : Bool := decide (x.tx = y.tx) && decide (x.pl = y.pl) && decide (x.t = y.t) && decide (x.k = y.k) && decide (x.n = y.n)
theorem Bad.beq_iff (x y : Bad) : Bad.beq x y = true ↔ x = y := by
  unfold Bad.beq
  constructor
  · intro h
    simp only [Bool.and_eq_true, decide_eq_true_eq] at h
    cases x; cases y
    simp_all
  · intro h
    subst h
    simp
theorem Bad.beq_self (x : Bad) : Bad.beq x x = true := (Bad.beq_iff x x).2 rfl
end Go.Proofs.Ytmgkpabagpgilaa.F
namespace Go.Proofs.Ytmgkpabagpgilaa.F
open Go.ChangeShapes Go.WideShapes Go.ChangeAt Go.RowKit Base
/-- A value of the struct. -/
structure Orc where
  i : Int
  s : Option Addr × Nat × Nat
def Orc.zero : Orc := ⟨0, (none, 0, 0)⟩
/-- Its cells. -/
def Orc.vals (x : Orc) : List Value := [.int .i64 x.i, .slice x.s.1 x.s.2.1 x.s.2.2]
/-- The slice v, whose elements lie from block base on, holds xs. -/
def Orcs (base : Nat) (w : World) (v : Value) (xs : List Orc) : Prop :=
  ((∃ p c, v = .slice p 0 c ∧ (p = none → c = 0)) ∧ xs = []) ∨ ∃ g o c, v = .slice (some ⟨g, o, none⟩) xs.length c ∧ base ≤ g ∧ g < w.heap.size ∧ xs.length ≤ 9223372036854775807 ∧ ∀ k, k < xs.length →
    w.cell? ⟨g, o + k * 2, none⟩ = some (.int .i64 (xs.getD k Orc.zero).i) ∧ w.cell? ⟨g, o + k * 2 + 1, none⟩ = some (.slice (xs.getD k Orc.zero).s.1 (xs.getD k Orc.zero).s.2.1 (xs.getD k Orc.zero).s.2.2)
theorem Orcs.kept {base base' : Nat} {w w1 : World} {v : Value} {xs : List Orc} (h : Orcs base w v xs) (hb : ∀ g, base ≤ g → g < w.heap.size → w1.heap[g]? = w.heap[g]? ∧ base' ≤ g) (hs : w.heap.size ≤ w1.heap.size) : Orcs base' w1 v xs := by
  rcases h with h | ⟨g, o, c, hv, h0, h1, h2, h3⟩
  · exact .inl h
  · refine .inr ⟨g, o, c, hv, (hb g h0 h1).2, Nat.lt_of_lt_of_le h1 hs, h2, fun k hk => ?_⟩
    have key : ∀ j, w1.cell? ⟨g, j, none⟩ = w.cell? ⟨g, j, none⟩ := fun j => World.cell?_of_block (a := ⟨g, j, none⟩) (hb g h0 h1).1
    simp only [key]
    exact h3 k hk
theorem Orcs.below {base : Nat} {w w1 : World} {v : Value} {xs : List Orc} (h : Orcs base w v xs) (hb : Below w.heap.size w w1) : Orcs base w1 v xs :=
  h.kept (fun g h0 h1 => ⟨hb.block g h1, h0⟩) hb.size
theorem Orcs.grown {base : Nat} {w w1 : World} {v : Value} {xs : List Orc} {x : Option Nat} (h : Orcs base w v xs) (hg : w.grownBy w1 x) (hx : ∀ b, x = some b → b < base) : Orcs base w1 v xs :=
  h.kept (fun g h0 h1 => ⟨hg.block g h1 (fun e => by have := hx g e.symm; omega), h0⟩) hg.size
theorem Orcs.mono {base base' : Nat} {w : World} {v : Value} {xs : List Orc} (h : Orcs base w v xs) (hb : base' ≤ base) : Orcs base' w v xs :=
  h.kept (fun _ h0 _ => ⟨rfl, Nat.le_trans hb h0⟩) (Nat.le_refl _)
theorem Orcs.open_ {base : Nat} {w : World} {v : Value} {xs : List Orc} (h : Orcs base w v xs) : ∃ p c, v = .slice p xs.length c ∧ xs.length ≤ 9223372036854775807 ∧ ∀ k, k < xs.length → ∃ g o, p = some ⟨g, o, none⟩ ∧ base ≤ g ∧ g < w.heap.size ∧
    w.cell? ⟨g, o + k * 2, none⟩ = some (.int .i64 (xs.getD k Orc.zero).i) ∧ w.cell? ⟨g, o + k * 2 + 1, none⟩ = some (.slice (xs.getD k Orc.zero).s.1 (xs.getD k Orc.zero).s.2.1 (xs.getD k Orc.zero).s.2.2) := by
  rcases h with ⟨⟨p, c, hv⟩, rfl⟩ | ⟨g, o, c, hv, h0, h1, h2, h3⟩
  · exact ⟨p, c, hv.1, by simp, fun k hk => absurd hk (by simp)⟩
  · exact ⟨_, c, hv, h2, fun k hk => ⟨g, o, rfl, h0, h1, h3 k hk⟩⟩
theorem Orcs.nil {base : Nat} {w : World} : Orcs base w (.slice none 0 0) [] := .inl ⟨⟨_, _, rfl, fun _ => rfl⟩, rfl⟩
theorem orc_flat_len (zs : List Orc) : (zs.flatMap Orc.vals).length = zs.length * 2 := by
  induction zs with
  | nil => rfl
  | cons x zs ih => rw [List.flatMap_cons, List.length_append, ih]; simp [Orc.vals]; omega
theorem orc_flat_get : ∀ (zs : List Orc) (k j : Nat), k < zs.length → j < 2 → (zs.flatMap Orc.vals)[k * 2 + j]? = (Orc.vals (zs.getD k Orc.zero))[j]?
  | x :: zs, 0, j, _, hj => by
    rw [List.flatMap_cons, List.getElem?_append_left (by simp [Orc.vals]; omega)]
    simp
  | x :: zs, k + 1, j, hk, hj => by
    rw [List.flatMap_cons, List.getElem?_append_right (by simp [Orc.vals]; omega), show (k + 1) * 2 + j - (Orc.vals x).length = k * 2 + j by simp [Orc.vals]; omega, orc_flat_get zs k j (by simpa using hk) hj]
    rfl
theorem orc_flat_take (zs : List Orc) (m : Nat) : (zs.flatMap Orc.vals).take (m * 2) = (zs.take m).flatMap Orc.vals := by
  induction zs generalizing m with
  | nil => simp
  | cons x zs ih =>
    cases m with
    | zero => simp
    | succ m =>
      rw [List.flatMap_cons, List.take_succ_cons, List.flatMap_cons, ← ih m, List.take_append, List.take_of_length_le (by simp [Orc.vals]; omega)]
      congr 2
      simp [Orc.vals]; omega
theorem orc_vals_one (zs : List Orc) : ∀ u ∈ zs.flatMap Orc.vals, u.oneCell' = true := by
  intro u hu
  obtain ⟨x, _, hx⟩ := List.mem_flatMap.1 hu
  simp only [Orc.vals, List.mem_cons, List.not_mem_nil, or_false] at hx
  rcases hx with rfl | rfl <;> rfl
/-- The slice v, which the call made itself from block B on, holds zs. -/
def OwnOrc (B : Nat) (w : World) (v : Value) (zs : List Orc) : Prop := w.ownsRow B 43 2 v zs.length (zs.flatMap Orc.vals)
theorem OwnOrc.nil (B : Nat) (w : World) : OwnOrc B w (.slice none 0 0) [] := World.ownsRow_nil _ _ _ _
theorem OwnOrc.list {B : Nat} {w : World} {v : Value} {zs : List Orc} (h : OwnOrc B w v zs) (hl : zs.length ≤ 9223372036854775807) : Orcs B w v zs := by
  have h' := h
  rcases h.2 with ⟨hv, h0⟩ | ⟨g, cap, cur, hv, hB, h2, _⟩
  · exact .inl ⟨⟨_, _, hv, fun _ => rfl⟩, List.length_eq_zero_iff.1 h0⟩
  · subst hv
    have hc : ∀ k j, k < zs.length → j < 2 → w.cell? ⟨g, 0 + k * 2 + j, none⟩ = (Orc.vals (zs.getD k Orc.zero))[j]? := fun k j hk hj => by
      rw [Nat.zero_add, ← orc_flat_get zs k j hk hj]
      exact World.ownsRow.cellAt h' (k * 2 + j) (by omega)
    exact .inr ⟨g, 0, cap, rfl, hB, heap_lt h2, hl, fun k hk => ⟨hc k 0 hk (by omega), hc k 1 hk (by omega)⟩⟩
theorem OwnOrc.kept {B : Nat} {w w1 : World} {v : Value} {zs : List Orc} (h : OwnOrc B w v zs) {row : Option Nat} (hg : w.grownBy w1 row) (hne : v.ownBlock = none ∨ v.ownBlock ≠ row) : OwnOrc B w1 v zs := World.ownsRow.kept h hg hne
theorem OwnOrc.below {B : Nat} {w w1 : World} {v : Value} {zs : List Orc} (h : OwnOrc B w v zs) (hb : Below w.heap.size w w1) : OwnOrc B w1 v zs :=
  World.ownsRow.kept h (row := none) ⟨hb.os, hb.tape, hb.output, hb.size, fun k hk _ => hb.block k hk⟩ (by cases v.ownBlock <;> simp)
theorem OwnOrc.base {B : Nat} {w : World} {v : Value} {zs : List Orc} (h : OwnOrc B w v zs) : ∀ k, v.ownBlock = some k → B ≤ k ∧ k < w.heap.size := World.ownsRow.lt h
/-- The first m of it, in the same place. -/
theorem OwnOrc.cut {B : Nat} {w : World} {p : Option Addr} {n c : Nat} {zs : List Orc} (h : OwnOrc B w (.slice p n c) zs) {m : Nat} (hm : m ≤ zs.length) : OwnOrc B w (.slice p m c) (zs.take m) := by
  obtain ⟨hl, h⟩ := h
  have hlen : (zs.take m).length = m := by rw [List.length_take]; omega
  refine ⟨by rw [orc_flat_len], ?_⟩
  rw [hlen]
  rcases h with ⟨hv, h0⟩ | ⟨g, cap, cur, hv, h1, h2, h3, h4, h5, h6⟩
  · injection hv with e1 e2 e3
    subst e1 e3
    obtain rfl : m = 0 := by omega
    exact .inl ⟨rfl, rfl⟩
  · injection hv with e1 e2 e3
    subst e1 e3
    refine .inr ⟨g, c, cur, rfl, h1, h2, by omega, h4, h5, ?_⟩
    rw [← orc_flat_take, ← h6, List.take_take]
    congr 1
    have := Nat.mul_le_mul_right 2 hm
    omega
theorem orc_info : (Try.prog.info? 43).map (fun i => (i.zero, i.size, i.bytes)) = some (some (.agg #[.int .i64 0, .slice none 0 0]), 2, 32) := by kernel_rfl
theorem run_append_orcs {B base : Nat} {w : World} {v u : Value} {zs ys : List Orc} (ty : TypeId)
    (hB : B ≤ w.heap.size) (hown : OwnOrc B w v zs) (hys : Orcs base w u ys) (hl : zs.length + ys.length ≤ 1000000) :
    ∃ v' w', (Builtin.append_ #[23, 23] ty #[v, u]).run Try.prog w = .ok v' w' ∧ OwnOrc B w' v' (zs ++ ys) ∧ w.grownBy w' v.ownBlock ∧ (v'.ownBlock = v.ownBlock ∨ v'.ownBlock = some w.heap.size) := by
  obtain ⟨i0, hi, hz0, hz1, hz2⟩ := info_parts orc_info
  rcases hys with ⟨⟨p, c, rfl, hpc⟩, rfl⟩ | ⟨g, o', c, rfl, _, _, _, hc⟩
  · cases p with
    | none =>
      obtain rfl := hpc rfl
      exact ⟨v, w, run_append_owned_none (P := Try.prog) (w := w) B 23 ty 43 i0 2 Try.underlying23 hi v zs.length (zs.flatMap Orc.vals) hown, by rw [List.append_nil]; exact hown, World.grownBy.refl _ _, .inl rfl⟩
    | some ad =>
      obtain ⟨v', w', hr, h2, h3, _, h5⟩ := run_append_own_at (P := Try.prog) w B 23 ty 43 i0 (.agg #[.int .i64 0, .slice none 0 0]) 2 32 Try.underlying23 hi hz0 hz1 hz2 rfl (by decide) v zs.length (zs.flatMap Orc.vals) hown ad 0 c [] (by simp) (by simp) (by simp) (by simp only [maxLen]; omega) (by omega) hB
      refine ⟨v', w', hr, ?_, h3, h5⟩
      rw [List.append_nil]
      unfold OwnOrc
      simpa using h2
  · obtain ⟨v', w', hr, h2, h3, _, h5⟩ := run_append_own_at (P := Try.prog) w B 23 ty 43 i0 (.agg #[.int .i64 0, .slice none 0 0]) 2 32 Try.underlying23 hi hz0 hz1 hz2 rfl (by decide) v zs.length (zs.flatMap Orc.vals) hown ⟨g, o', none⟩ ys.length c (ys.flatMap Orc.vals) (orc_flat_len ys) (by
      intro t y hy
      have ht : t < ys.length * 2 := by rw [← orc_flat_len ys]; exact (List.getElem?_eq_some_iff.1 hy).1
      have hk : t / 2 < ys.length := by omega
      have hr : t % 2 < 2 := Nat.mod_lt _ (by decide)
      have e : t = t / 2 * 2 + t % 2 := by omega
      have hcc := hc (t / 2) hk
      rw [e, orc_flat_get ys _ _ hk hr] at hy
      rw [add_plain, e]
      generalize t / 2 = k at hcc hy
      generalize t % 2 = j at hr hy
      obtain ⟨c0, c1⟩ := hcc
      match j, hr, hy with
      | 0, _, hy => simp [Orc.vals] at hy; subst hy; simpa [Nat.add_assoc] using c0
      | 1, _, hy => simp [Orc.vals] at hy; subst hy; simpa [Nat.add_assoc] using c1) (orc_vals_one ys) (by simp only [maxLen]; omega) (by omega) hB
    refine ⟨v', w', hr, ?_, h3, h5⟩
    unfold OwnOrc
    rw [List.length_append, List.flatMap_append]
    exact h2
/-- Some are put behind a slice of the call's own. -/
theorem append_orcs {ops : Array Oper} {rest : List Oper} {o : Oper} {a : Act} {Q : Exit → Act → World → Prop} (hgd : o.guard = none) (s x : Operand)
    (ho : o.op = .call { callee := .builtin .append, args := #[s, x], argTypes := #[23, 23] }) {B base : Nat} {w : World} {v u : Value} {zs ys : List Orc}
    (hB : B ≤ w.heap.size) (hown : OwnOrc B w v zs) (hs : a.eval s = v) (hys : Orcs base w u ys) (hx : a.eval x = u) (hl : zs.length + ys.length ≤ 1000000)
    (h : ∀ v' w', OwnOrc B w' v' (zs ++ ys) → w.grownBy w' v.ownBlock → (v'.ownBlock = v.ownBlock ∨ v'.ownBlock = some w.heap.size) → wpList Try.prog ops Q rest (a.put o.dst v') w') :
    wpList Try.prog ops Q (o :: rest) a w := by
  refine wpList_plain hgd fun K hK => ?_
  obtain ⟨v', w', hr, h2, h3, h5⟩ := run_append_orcs o.type hB hown hys hl
  unfold Oper.wp execOp
  simp only [ho, resolve, invoke, builtin, Sem.run_bind, Sem.run_pure, Result.andThen_ok, List.map_toArray, List.map_cons, List.map_nil, hs, hx, hr]
  exact hK _ _ (h v' w' h2 h3 h5)
/-- The same, as one step of a region that draws its order. -/
theorem step_append_orcs {ops : Array Oper} {o : Oper} {a : Act} {w : World} {K : Act → World → Prop} {Q : Exit → Act → World → Prop} {E : Prop} (hgd : o.guard = none) (s x : Operand)
    (ho : o.op = .call { callee := .builtin .append, args := #[s, x], argTypes := #[23, 23] }) {B base : Nat} {v u : Value} {zs ys : List Orc}
    (hB : B ≤ w.heap.size) (hown : OwnOrc B w v zs) (hs : a.eval s = v) (hys : Orcs base w u ys) (hx : a.eval x = u) (hl : zs.length + ys.length ≤ 1000000)
    (hK : ∀ v' w', OwnOrc B w' v' (zs ++ ys) → w.grownBy w' v.ownBlock → (v'.ownBlock = v.ownBlock ∨ v'.ownBlock = some w.heap.size) → K (a.put o.dst v') w') :
    if Region.wanted o (yielded ops a.tmps) = true then Oper.wp Try.prog o a w K Q else E := by
  rw [if_pos (by simp [Region.wanted, hgd])]
  obtain ⟨v', w', hr, h2, h3, h5⟩ := run_append_orcs o.type hB hown hys hl
  unfold Oper.wp
  simp [execOp, ho, resolve, invoke, builtin, hs, hx, hr, Result.andThen]
  exact hK v' w' h2 h3 h5
theorem OwnOrc.lay {B : Nat} {w X : World} {v : Value} {zs : List Orc} (h : OwnOrc B w v zs) (hx : X.heap = w.heap) (o : Obj) : OwnOrc B (X.alloc o) v zs := by
  have h1 : OwnOrc B X v zs := by
    unfold OwnOrc World.ownsRow at *
    rw [hx]
    exact h
  exact World.ownsRow.alloc h1 o
theorem ownOrc_empty {B : Nat} {W : World} {g : Nat} (hB : B ≤ g) (h : W.heap[g]? = some (.cells #[] 43)) : OwnOrc B W (.slice (some ⟨g, 0, none⟩) 0 0) [] :=
  ⟨rfl, .inr ⟨g, 0, #[], rfl, hB, h, Nat.le_refl _, by simp [maxLen], rfl, rfl⟩⟩
/-- One that is typed out. -/
theorem orc_at {X : World} {g : Nat} (c : Orc) (h : X.heap[g]? = some (.cells #[.int .i64 c.i, .slice c.s.1 c.s.2.1 c.s.2.2] 43)) : Orcs 0 X (.slice (some ⟨g, 0, none⟩) 1 1) [c] := by
  refine .inr ⟨g, 0, 1, rfl, Nat.zero_le _, heap_lt h, by simp, fun k hk => ?_⟩
  have : k = 0 := by simpa using hk
  subst this
  simp only [World.cell?, h]
  simp
theorem orc_lit (c : Orc) (X : World) : Orcs 0 (X.alloc (.cells #[.int .i64 c.i, .slice c.s.1 c.s.2.1 c.s.2.2] 43)) (.slice (some ⟨X.heap.size, 0, none⟩) 1 1) [c] := orc_at c (heap_alloc_at _ _ _ rfl)

end Go.Proofs.Ytmgkpabagpgilaa.F
namespace Go.Proofs.Ytmgkpabagpgilaa.Off
open Go.ChangeShapes Go.WideShapes Go.ChangeAt Go.RowKit Base F
theorem own_lit (zs : List Opr) {W : World} {g : Nat} {vs : Array Value} (hv : vs = (zs.flatMap Opr.vals).toArray) (h : W.heap[g]? = some (.cells vs 45)) (hl : zs.length ≤ 65536) (m : Nat) (hm : m = zs.length) : Oprs 0 W (.slice (some ⟨g, 0, none⟩) m m) zs := by
  subst hm hv
  have : OwnOpr 0 W (.slice (some ⟨g, 0, none⟩) zs.length zs.length) zs := ⟨by rw [opr_flat_len], .inr ⟨g, zs.length, (zs.flatMap Opr.vals).toArray, rfl, Nat.zero_le _, h, Nat.le_refl _, by simp only [maxLen]; omega, by rw [List.size_toArray, opr_flat_len], by rw [List.toList_toArray, ← opr_flat_len, List.take_length]⟩⟩
  exact this.list (by omega)
theorem joinG {α β γ : Type} {P : Prop} (J : α → β → γ → Prop) (G : α → β → γ → Prop) (h1 : (∀ x y u, J x y u → G x y u) → P) (h2 : ∀ x y u, J x y u → G x y u) : P := h1 h2
end Go.Proofs.Ytmgkpabagpgilaa.Off
namespace Go.Proofs.Ytmgkpabagpgilaa.F
open Go.ChangeShapes Go.WideShapes Go.ChangeAt Go.RowKit Base
/-- Are two alike? -/
def Hvy.beq (x y : Hvy) : Bool := decide (x.f = y.f) && decide (x.t = y.t) && decide (x.kd = y.kd) && decide (x.k = y.k) && decide (x.n = y.n)
theorem Hvy.beq_iff (x y : Hvy) : Hvy.beq x y = true ↔ x = y := by
  unfold Hvy.beq
  constructor
  · intro h
    simp only [Bool.and_eq_true, decide_eq_true_eq] at h
    cases x; cases y
    simp_all
  · intro h
    subst h
    simp
theorem Hvy.beq_self (x : Hvy) : Hvy.beq x x = true := (Hvy.beq_iff x x).2 rfl
set_option maxHeartbeats 4000000 in
theorem eq_hvy (x y : Hvy) (w : World) : (binOp .eql 35 (.agg #[.int .i64 x.f, .int .i64 x.t, .int .i64 x.kd, .int .i64 x.k, .int .i64 x.n]) (.agg #[.int .i64 y.f, .int .i64 y.t, .int .i64 y.kd, .int .i64 y.k, .int .i64 y.n])).run Try.prog w = .ok (.bool (Hvy.beq x y)) w := by
  have u3 := Try.underlying3
  have a3 := Try.isAgg3
  have z3 := Try.sizeOf3
  have hS : Try.prog.underlying 35 = some (.struct (Try.prog.fieldsOf 35)) := by kernel_rfl
  have hp : Try.prog.stoodInHeld 35 = false := by kernel_rfl
  rw [run_eql_struct, show (10000 : Nat) = 9999 + 1 from rfl, run_equalIn_agg w 9999 35 _ _ hS hp]
  simp only [Program.fieldsOf, Try.underlying35]
  go_simp
  obtain ⟨x0, x1, x2, x3, x4⟩ := x
  obtain ⟨y0, y1, y2, y3, y4⟩ := y
  unfold Hvy.beq
  by_cases h0 : x0 = y0 <;> by_cases h1 : x1 = y1 <;> by_cases h2 : x2 = y2 <;> by_cases h3 : x3 = y3 <;> by_cases h4 : x4 = y4 <;> simp [h0, h1, h2, h3, h4]
set_option maxHeartbeats 4000000 in
theorem ne_hvy (x y : Hvy) (w : World) : (binOp .neq 35 (.agg #[.int .i64 x.f, .int .i64 x.t, .int .i64 x.kd, .int .i64 x.k, .int .i64 x.n]) (.agg #[.int .i64 y.f, .int .i64 y.t, .int .i64 y.kd, .int .i64 y.k, .int .i64 y.n])).run Try.prog w = .ok (.bool (!Hvy.beq x y)) w := by
  have u3 := Try.underlying3
  have a3 := Try.isAgg3
  have z3 := Try.sizeOf3
  have hS : Try.prog.underlying 35 = some (.struct (Try.prog.fieldsOf 35)) := by kernel_rfl
  have hp : Try.prog.stoodInHeld 35 = false := by kernel_rfl
  rw [run_neq_struct, show (10000 : Nat) = 9999 + 1 from rfl, run_equalIn_agg w 9999 35 _ _ hS hp]
  simp only [Program.fieldsOf, Try.underlying35]
  go_simp
  obtain ⟨x0, x1, x2, x3, x4⟩ := x
  obtain ⟨y0, y1, y2, y3, y4⟩ := y
  unfold Hvy.beq
  by_cases h0 : x0 = y0 <;> by_cases h1 : x1 = y1 <;> by_cases h2 : x2 = y2 <;> by_cases h3 : x3 = y3 <;> by_cases h4 : x4 = y4 <;> simp [h0, h1, h2, h3, h4]
end Go.Proofs.Ytmgkpabagpgilaa.F
