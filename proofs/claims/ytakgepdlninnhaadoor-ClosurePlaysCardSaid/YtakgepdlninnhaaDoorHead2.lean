/-
  Contracts of small functions, several texts laid into one. Not a statement of the seat.
-/
import Derived.Test.YtakgepdlninnhaaDoorHead1
import Derived.Deep.Slices
import Derived.Deep.Fields
import Derived.ChangeSame
import Derived.OpenShut
import Derived.ProofKit
import Derived.Deep.DeepHandedRow
import Derived.Laws.AppendOwnNone
import Derived.Maps.AppendAt
import Derived.Deep.RegionLaw
namespace Go.Proofs.YtakgepdlninnhaaDoor.F
open Go.ChangeShapes Go.WideShapes Go.ChangeAt Go.RowKit Base
section
open Go.Deep
variable {H : Type} {enc : TypeId × Value → H} {P : Program} {w : World}
/-- Is each cell of a type an int of 64 bits? (Structs in structs, too.) -/
def flatB (P : Program) : Nat → TypeId → Bool
  | 0, _ => false
  | n + 1, t => match P.underlying t with
    | some (.int k) => decide (k = .i64) && decide (P.cellsOf t = 1)
    | some (.struct fs) => fs.all (fun f => flatB P n f.type) && (List.range (P.cellsOf t)).all fun i => fs.any fun f => decide (f.offset ≤ i ∧ i < f.offset + P.cellsOf f.type)
    | _ => false
/-- An int of 64 bits. -/
def is64 (z : Int) : Prop := -9223372036854775808 ≤ z ∧ z ≤ 9223372036854775807
theorem flat_cells : ∀ (n : Nat) (t : TypeId), flatB P n t = true → ∀ (base : Nat) (spare : Nat → Bool) (held : Bool) (fuel : Nat) (cs : List Value) (x : DataW H × List MemPlace), DataW.trod enc P w base spare held fuel t cs = some x → ∀ i, i < P.cellsOf t → ∃ z, cs[i]? = some (.int .i64 z) ∧ is64 z
  | 0, _, h => by simp [flatB] at h
  | n + 1, t, h => by
    intro base spare held fuel cs x hx i hi
    unfold flatB at h
    split at h
    · next k hk =>
      rw [Bool.and_eq_true] at h
      have e1 := of_decide_eq_true h.1
      have e2 := of_decide_eq_true h.2
      subst e1
      obtain ⟨z, rfl, _, hw⟩ := DataW.trod_int hk hx
      have : i = 0 := by omega
      subst this
      exact ⟨z, rfl, bounds_i64 hw⟩
    · next fs hs =>
      rw [Bool.and_eq_true] at h
      obtain ⟨h1, h2⟩ := h
      obtain ⟨xs, n', _, _, hcl, hxl, hg⟩ := DataW.trod_struct hs hx
      have h3 := List.all_eq_true.1 h2 i (List.mem_range.2 hi)
      rw [Array.any_eq_true] at h3
      obtain ⟨j, hj, h3⟩ := h3
      have h4 := of_decide_eq_true h3
      have h5 := hg j fs[j] (Array.getElem?_eq_getElem hj)
      rw [List.getElem?_eq_getElem (by omega)] at h5
      have h6 : flatB P n fs[j].type = true := by
        rw [Array.all_eq_true] at h1
        exact h1 j hj
      obtain ⟨z, hz, hb⟩ := flat_cells n _ h6 _ _ _ _ _ _ h5 (i - fs[j].offset) (by omega)
      refine ⟨z, ?_, hb⟩
      rw [List.getElem?_take, if_pos (by omega), List.getElem?_drop] at hz
      rw [← hz]
      congr 1
      omega
    · cases h
/-- A slice of such structs. -/
theorem open_flat {r : Reach} {b0 n : Nat} {t e : TypeId} {v : Value} {d : DataW H} {p : List MemPlace} (ht : P.underlying t = some (.slice e)) (hf : flatB P n e = true) (hpos : 0 < P.cellsOf e) (hv : Value.okWide P w r b0 t v) (h : DataW.Trod enc P w 0 (fun _ => true) true t v d p) :
    ∃ (q : Option Addr) (len cap : Nat) (G : Nat → Nat → Int), v = .slice q len cap ∧ (q = none → cap = 0) ∧ len ≤ cap ∧ len ≤ 9223372036854775807 ∧ (∀ k j, is64 (G k j)) ∧ ∀ k, k < len → ∃ g o, q = some ⟨g, o, none⟩ ∧ g < w.heap.size ∧ ∀ j, j < P.cellsOf e → w.cell? ⟨g, o + k * P.cellsOf e + j, none⟩ = some (.int .i64 (G k j)) := by
  obtain ⟨a0, len, cap, rfl⟩ := okWide_slice ht hv
  obtain ⟨fuel, hfu⟩ := h
  rcases open_slice ht hfu with ⟨hcs, _⟩ | ⟨a, len', cap', m, n', D, Pl, hcs, _, hl, hm, hmm, _, hel⟩
  · simp [Value.cells] at hcs
    obtain ⟨rfl, rfl, rfl⟩ := hcs
    exact ⟨none, 0, 0, fun _ _ => 0, rfl, fun _ => rfl, by omega, by omega, fun _ _ => (show is64 0 from ⟨by decide, by decide⟩), fun k hk => absurd hk (by omega)⟩
  · simp [Value.cells] at hcs
    obtain ⟨rfl, rfl, rfl⟩ := hcs
    simp only [if_true] at hmm
    have key : ∀ k, ∀ j, ∃ z : Int, is64 z ∧ (k < len → j < P.cellsOf e → w.cell? ((a.add (k * P.cellsOf e)).add j) = some (.int .i64 z)) := fun k j => by
      by_cases hk : k < len ∧ j < P.cellsOf e
      · obtain ⟨cs', hc, ht'⟩ := hel k (by omega)
        obtain ⟨_, hcl, hat⟩ := World.cells?_some hc
        obtain ⟨z, hz, hb⟩ := flat_cells n e hf _ _ _ _ _ _ ht' j hk.2
        exact ⟨z, hb, fun _ _ => (hat j hk.2).trans hz⟩
      · exact ⟨0, ⟨by decide, by decide⟩, fun h1 h2 => absurd ⟨h1, h2⟩ hk⟩
    have hG : ∃ G : Nat → Nat → Int, ∀ k j, is64 (G k j) ∧ (k < len → j < P.cellsOf e → w.cell? ((a.add (k * P.cellsOf e)).add j) = some (.int .i64 (G k j))) := by
      obtain ⟨G, hG⟩ := Classical.axiomOfChoice fun k => Classical.axiomOfChoice (key k)
      exact ⟨G, hG⟩
    obtain ⟨G, hG⟩ := hG
    refine ⟨some a, len, cap, G, rfl, (fun e => by cases e), hl, by simp only [maxLen] at hm; omega, fun k j => (hG k j).1, fun k hk => ?_⟩
    obtain ⟨b, off, spot⟩ := a
    have h0 := (hG k 0).2 hk hpos
    have hspot : spot = none := by
      have h9 := World.cell?_spot ((hG 0 0).2 (by omega) hpos)
      simpa [Addr.add] using h9
    subst hspot
    refine ⟨b, off, rfl, ?_, fun j hj => ?_⟩
    · rw [add_plain, add_plain] at h0
      exact World.block_lt_of_cell? w _ h0
    · have := (hG k j).2 hk hj
      rwa [add_plain, add_plain] at this
/-- Such a struct by value. -/
theorem open_flat1 {r : Reach} {b0 n : Nat} {t : TypeId} {v : Value} {d : DataW H} {p : List MemPlace} {base : Nat} {spare : Nat → Bool} {held : Bool} {fs : Array Field} (hs : P.underlying t = some (.struct fs)) (hf : flatB P n t = true) (hv : Value.okWide P w r b0 t v) (h : DataW.Trod enc P w base spare held t v d p) :
    ∃ G : Nat → Int, (∀ j, is64 (G j)) ∧ v = .agg (((List.range (P.cellsOf t)).map fun j => Value.int .i64 (G j)).toArray) := by
  obtain ⟨cs, rfl, hsz⟩ := okWide_struct hs hv
  obtain ⟨fuel, hfu⟩ := h
  have key : ∀ j, ∃ z : Int, is64 z ∧ (j < P.cellsOf t → cs[j]? = some (.int .i64 z)) := fun j => by
    by_cases hj : j < P.cellsOf t
    · obtain ⟨z, hz, hb⟩ := flat_cells n t hf _ _ _ _ _ _ hfu j hj
      exact ⟨z, hb, fun _ => by simpa [Value.cells] using hz⟩
    · exact ⟨0, ⟨by decide, by decide⟩, fun h => absurd h hj⟩
  obtain ⟨G, hG⟩ := Classical.axiomOfChoice key
  refine ⟨G, fun j => (hG j).1, ?_⟩
  congr 1
  apply Array.ext_getElem?
  intro j
  by_cases hj : j < P.cellsOf t
  · rw [(hG j).2 hj]
    simp [hj]
  · rw [Array.getElem?_eq_none (by rw [hsz]; omega), Array.getElem?_eq_none (by simp; omega)]
end
end Go.Proofs.YtakgepdlninnhaaDoor.F
namespace Go.Proofs.YtakgepdlninnhaaDoor.F
open Go.ChangeShapes Go.WideShapes Go.ChangeAt Go.RowKit Base
/-- A value of the struct. -/
structure Pai where
  k : Int
  v : Int
def Pai.zero : Pai := ⟨0, 0⟩
/-- Its cells. -/
def Pai.vals (x : Pai) : List Value := [.int .i64 x.k, .int .i64 x.v]
/-- Its fields are ints of 64 bits. -/
def Pai.ok (x : Pai) : Prop := (-9223372036854775808 ≤ x.k ∧ x.k ≤ 9223372036854775807) ∧ (-9223372036854775808 ≤ x.v ∧ x.v ≤ 9223372036854775807)
/-- The slice v, whose elements lie from block base on, holds xs. -/
def Pais (base : Nat) (w : World) (v : Value) (xs : List Pai) : Prop :=
  ((∃ p c, v = .slice p 0 c ∧ (p = none → c = 0)) ∧ xs = []) ∨ ∃ g o c, v = .slice (some ⟨g, o, none⟩) xs.length c ∧ base ≤ g ∧ g < w.heap.size ∧ xs.length ≤ 9223372036854775807 ∧ ∀ k, k < xs.length →
    w.cell? ⟨g, o + k * 2, none⟩ = some (.int .i64 (xs.getD k Pai.zero).k) ∧ w.cell? ⟨g, o + k * 2 + 1, none⟩ = some (.int .i64 (xs.getD k Pai.zero).v)
theorem Pais.kept {base base' : Nat} {w w1 : World} {v : Value} {xs : List Pai} (h : Pais base w v xs) (hb : ∀ g, base ≤ g → g < w.heap.size → w1.heap[g]? = w.heap[g]? ∧ base' ≤ g) (hs : w.heap.size ≤ w1.heap.size) : Pais base' w1 v xs := by
  rcases h with h | ⟨g, o, c, hv, h0, h1, h2, h3⟩
  · exact .inl h
  · refine .inr ⟨g, o, c, hv, (hb g h0 h1).2, Nat.lt_of_lt_of_le h1 hs, h2, fun k hk => ?_⟩
    have key : ∀ j, w1.cell? ⟨g, j, none⟩ = w.cell? ⟨g, j, none⟩ := fun j => World.cell?_of_block (a := ⟨g, j, none⟩) (hb g h0 h1).1
    simp only [key]
    exact h3 k hk
theorem Pais.below {base : Nat} {w w1 : World} {v : Value} {xs : List Pai} (h : Pais base w v xs) (hb : Below w.heap.size w w1) : Pais base w1 v xs :=
  h.kept (fun g h0 h1 => ⟨hb.block g h1, h0⟩) hb.size
theorem Pais.grown {base : Nat} {w w1 : World} {v : Value} {xs : List Pai} {x : Option Nat} (h : Pais base w v xs) (hg : w.grownBy w1 x) (hx : ∀ b, x = some b → b < base) : Pais base w1 v xs :=
  h.kept (fun g h0 h1 => ⟨hg.block g h1 (fun e => by have := hx g e.symm; omega), h0⟩) hg.size
theorem Pais.mono {base base' : Nat} {w : World} {v : Value} {xs : List Pai} (h : Pais base w v xs) (hb : base' ≤ base) : Pais base' w v xs :=
  h.kept (fun _ h0 _ => ⟨rfl, Nat.le_trans hb h0⟩) (Nat.le_refl _)
theorem Pais.open_ {base : Nat} {w : World} {v : Value} {xs : List Pai} (h : Pais base w v xs) : ∃ p c, v = .slice p xs.length c ∧ xs.length ≤ 9223372036854775807 ∧ ∀ k, k < xs.length → ∃ g o, p = some ⟨g, o, none⟩ ∧ base ≤ g ∧ g < w.heap.size ∧
    w.cell? ⟨g, o + k * 2, none⟩ = some (.int .i64 (xs.getD k Pai.zero).k) ∧ w.cell? ⟨g, o + k * 2 + 1, none⟩ = some (.int .i64 (xs.getD k Pai.zero).v) := by
  rcases h with ⟨⟨p, c, hv⟩, rfl⟩ | ⟨g, o, c, hv, h0, h1, h2, h3⟩
  · exact ⟨p, c, hv.1, by simp, fun k hk => absurd hk (by simp)⟩
  · exact ⟨_, c, hv, h2, fun k hk => ⟨g, o, rfl, h0, h1, h3 k hk⟩⟩
theorem Pais.nil {base : Nat} {w : World} : Pais base w (.slice none 0 0) [] := .inl ⟨⟨_, _, rfl, fun _ => rfl⟩, rfl⟩
theorem pai_flat_len (zs : List Pai) : (zs.flatMap Pai.vals).length = zs.length * 2 := by
  induction zs with
  | nil => rfl
  | cons x zs ih => rw [List.flatMap_cons, List.length_append, ih]; simp [Pai.vals]; omega
theorem pai_flat_get : ∀ (zs : List Pai) (k j : Nat), k < zs.length → j < 2 → (zs.flatMap Pai.vals)[k * 2 + j]? = (Pai.vals (zs.getD k Pai.zero))[j]?
  | x :: zs, 0, j, _, hj => by
    rw [List.flatMap_cons, List.getElem?_append_left (by simp [Pai.vals]; omega)]
    simp
  | x :: zs, k + 1, j, hk, hj => by
    rw [List.flatMap_cons, List.getElem?_append_right (by simp [Pai.vals]; omega), show (k + 1) * 2 + j - (Pai.vals x).length = k * 2 + j by simp [Pai.vals]; omega, pai_flat_get zs k j (by simpa using hk) hj]
    rfl
theorem pai_flat_take (zs : List Pai) (m : Nat) : (zs.flatMap Pai.vals).take (m * 2) = (zs.take m).flatMap Pai.vals := by
  induction zs generalizing m with
  | nil => simp
  | cons x zs ih =>
    cases m with
    | zero => simp
    | succ m =>
      rw [List.flatMap_cons, List.take_succ_cons, List.flatMap_cons, ← ih m, List.take_append, List.take_of_length_le (by simp [Pai.vals]; omega)]
      congr 2
      simp [Pai.vals]; omega
theorem pai_vals_one (zs : List Pai) : ∀ u ∈ zs.flatMap Pai.vals, u.oneCell' = true := by
  intro u hu
  obtain ⟨x, _, hx⟩ := List.mem_flatMap.1 hu
  simp only [Pai.vals, List.mem_cons, List.not_mem_nil, or_false] at hx
  rcases hx with rfl | rfl <;> rfl
/-- The slice v, which the call made itself from block B on, holds zs. -/
def OwnPai (B : Nat) (w : World) (v : Value) (zs : List Pai) : Prop := w.ownsRow B 48 2 v zs.length (zs.flatMap Pai.vals)
theorem OwnPai.nil (B : Nat) (w : World) : OwnPai B w (.slice none 0 0) [] := World.ownsRow_nil _ _ _ _
theorem OwnPai.list {B : Nat} {w : World} {v : Value} {zs : List Pai} (h : OwnPai B w v zs) (hl : zs.length ≤ 9223372036854775807) : Pais B w v zs := by
  have h' := h
  rcases h.2 with ⟨hv, h0⟩ | ⟨g, cap, cur, hv, hB, h2, _⟩
  · exact .inl ⟨⟨_, _, hv, fun _ => rfl⟩, List.length_eq_zero_iff.1 h0⟩
  · subst hv
    have hc : ∀ k j, k < zs.length → j < 2 → w.cell? ⟨g, 0 + k * 2 + j, none⟩ = (Pai.vals (zs.getD k Pai.zero))[j]? := fun k j hk hj => by
      rw [Nat.zero_add, ← pai_flat_get zs k j hk hj]
      exact World.ownsRow.cellAt h' (k * 2 + j) (by omega)
    exact .inr ⟨g, 0, cap, rfl, hB, heap_lt h2, hl, fun k hk => ⟨hc k 0 hk (by omega), hc k 1 hk (by omega)⟩⟩
theorem OwnPai.kept {B : Nat} {w w1 : World} {v : Value} {zs : List Pai} (h : OwnPai B w v zs) {row : Option Nat} (hg : w.grownBy w1 row) (hne : v.ownBlock = none ∨ v.ownBlock ≠ row) : OwnPai B w1 v zs := World.ownsRow.kept h hg hne
theorem OwnPai.below {B : Nat} {w w1 : World} {v : Value} {zs : List Pai} (h : OwnPai B w v zs) (hb : Below w.heap.size w w1) : OwnPai B w1 v zs :=
  World.ownsRow.kept h (row := none) ⟨hb.os, hb.tape, hb.output, hb.size, fun k hk _ => hb.block k hk⟩ (by cases v.ownBlock <;> simp)
theorem OwnPai.base {B : Nat} {w : World} {v : Value} {zs : List Pai} (h : OwnPai B w v zs) : ∀ k, v.ownBlock = some k → B ≤ k ∧ k < w.heap.size := World.ownsRow.lt h
/-- The first m of it, in the same place. -/
theorem OwnPai.cut {B : Nat} {w : World} {p : Option Addr} {n c : Nat} {zs : List Pai} (h : OwnPai B w (.slice p n c) zs) {m : Nat} (hm : m ≤ zs.length) : OwnPai B w (.slice p m c) (zs.take m) := by
  obtain ⟨hl, h⟩ := h
  have hlen : (zs.take m).length = m := by rw [List.length_take]; omega
  refine ⟨by rw [pai_flat_len], ?_⟩
  rw [hlen]
  rcases h with ⟨hv, h0⟩ | ⟨g, cap, cur, hv, h1, h2, h3, h4, h5, h6⟩
  · injection hv with e1 e2 e3
    subst e1 e3
    obtain rfl : m = 0 := by omega
    exact .inl ⟨rfl, rfl⟩
  · injection hv with e1 e2 e3
    subst e1 e3
    refine .inr ⟨g, c, cur, rfl, h1, h2, by omega, h4, h5, ?_⟩
    rw [← pai_flat_take, ← h6, List.take_take]
    congr 1
    have := Nat.mul_le_mul_right 2 hm
    omega
theorem pai_info : (Tryd.prog.info? 48).map (fun i => (i.zero, i.size, i.bytes)) = some (some (.agg #[.int .i64 0, .int .i64 0]), 2, 16) := by kernel_rfl
theorem run_append_pais {B base : Nat} {w : World} {v u : Value} {zs ys : List Pai} (ty : TypeId)
    (hB : B ≤ w.heap.size) (hown : OwnPai B w v zs) (hys : Pais base w u ys) (hl : zs.length + ys.length ≤ 1000000) :
    ∃ v' w', (Builtin.append_ #[27, 27] ty #[v, u]).run Tryd.prog w = .ok v' w' ∧ OwnPai B w' v' (zs ++ ys) ∧ w.grownBy w' v.ownBlock ∧ (v'.ownBlock = v.ownBlock ∨ v'.ownBlock = some w.heap.size) := by
  obtain ⟨i0, hi, hz0, hz1, hz2⟩ := info_parts pai_info
  rcases hys with ⟨⟨p, c, rfl, hpc⟩, rfl⟩ | ⟨g, o', c, rfl, _, _, _, hc⟩
  · cases p with
    | none =>
      obtain rfl := hpc rfl
      exact ⟨v, w, run_append_owned_none (P := Tryd.prog) (w := w) B 27 ty 48 i0 2 Tryd.underlying27 hi v zs.length (zs.flatMap Pai.vals) hown, by rw [List.append_nil]; exact hown, World.grownBy.refl _ _, .inl rfl⟩
    | some ad =>
      obtain ⟨v', w', hr, h2, h3, _, h5⟩ := run_append_own_at (P := Tryd.prog) w B 27 ty 48 i0 (.agg #[.int .i64 0, .int .i64 0]) 2 16 Tryd.underlying27 hi hz0 hz1 hz2 rfl (by decide) v zs.length (zs.flatMap Pai.vals) hown ad 0 c [] (by simp) (by simp) (by simp) (by simp only [maxLen]; omega) (by omega) hB
      refine ⟨v', w', hr, ?_, h3, h5⟩
      rw [List.append_nil]
      unfold OwnPai
      simpa using h2
  · obtain ⟨v', w', hr, h2, h3, _, h5⟩ := run_append_own_at (P := Tryd.prog) w B 27 ty 48 i0 (.agg #[.int .i64 0, .int .i64 0]) 2 16 Tryd.underlying27 hi hz0 hz1 hz2 rfl (by decide) v zs.length (zs.flatMap Pai.vals) hown ⟨g, o', none⟩ ys.length c (ys.flatMap Pai.vals) (pai_flat_len ys) (by
      intro t y hy
      have ht : t < ys.length * 2 := by rw [← pai_flat_len ys]; exact (List.getElem?_eq_some_iff.1 hy).1
      have hk : t / 2 < ys.length := by omega
      have hr : t % 2 < 2 := Nat.mod_lt _ (by decide)
      have e : t = t / 2 * 2 + t % 2 := by omega
      have hcc := hc (t / 2) hk
      rw [e, pai_flat_get ys _ _ hk hr] at hy
      rw [add_plain, e]
      generalize t / 2 = k at hcc hy
      generalize t % 2 = j at hr hy
      obtain ⟨c0, c1⟩ := hcc
      match j, hr, hy with
      | 0, _, hy => simp [Pai.vals] at hy; subst hy; simpa [Nat.add_assoc] using c0
      | 1, _, hy => simp [Pai.vals] at hy; subst hy; simpa [Nat.add_assoc] using c1) (pai_vals_one ys) (by simp only [maxLen]; omega) (by omega) hB
    refine ⟨v', w', hr, ?_, h3, h5⟩
    unfold OwnPai
    rw [List.length_append, List.flatMap_append]
    exact h2
/-- Some are put behind a slice of the call's own. -/
theorem append_pais {ops : Array Oper} {rest : List Oper} {o : Oper} {a : Act} {Q : Exit → Act → World → Prop} (hgd : o.guard = none) (s x : Operand)
    (ho : o.op = .call { callee := .builtin .append, args := #[s, x], argTypes := #[27, 27] }) {B base : Nat} {w : World} {v u : Value} {zs ys : List Pai}
    (hB : B ≤ w.heap.size) (hown : OwnPai B w v zs) (hs : a.eval s = v) (hys : Pais base w u ys) (hx : a.eval x = u) (hl : zs.length + ys.length ≤ 1000000)
    (h : ∀ v' w', OwnPai B w' v' (zs ++ ys) → w.grownBy w' v.ownBlock → (v'.ownBlock = v.ownBlock ∨ v'.ownBlock = some w.heap.size) → wpList Tryd.prog ops Q rest (a.put o.dst v') w') :
    wpList Tryd.prog ops Q (o :: rest) a w := by
  refine wpList_plain hgd fun K hK => ?_
  obtain ⟨v', w', hr, h2, h3, h5⟩ := run_append_pais o.type hB hown hys hl
  unfold Oper.wp execOp
  simp only [ho, resolve, invoke, builtin, Sem.run_bind, Sem.run_pure, Result.andThen_ok, List.map_toArray, List.map_cons, List.map_nil, hs, hx, hr]
  exact hK _ _ (h v' w' h2 h3 h5)
/-- The same, as one step of a region that draws its order. -/
theorem step_append_pais {ops : Array Oper} {o : Oper} {a : Act} {w : World} {K : Act → World → Prop} {Q : Exit → Act → World → Prop} {E : Prop} (hgd : o.guard = none) (s x : Operand)
    (ho : o.op = .call { callee := .builtin .append, args := #[s, x], argTypes := #[27, 27] }) {B base : Nat} {v u : Value} {zs ys : List Pai}
    (hB : B ≤ w.heap.size) (hown : OwnPai B w v zs) (hs : a.eval s = v) (hys : Pais base w u ys) (hx : a.eval x = u) (hl : zs.length + ys.length ≤ 1000000)
    (hK : ∀ v' w', OwnPai B w' v' (zs ++ ys) → w.grownBy w' v.ownBlock → (v'.ownBlock = v.ownBlock ∨ v'.ownBlock = some w.heap.size) → K (a.put o.dst v') w') :
    if Region.wanted o (yielded ops a.tmps) = true then Oper.wp Tryd.prog o a w K Q else E := by
  rw [if_pos (by simp [Region.wanted, hgd])]
  obtain ⟨v', w', hr, h2, h3, h5⟩ := run_append_pais o.type hB hown hys hl
  unfold Oper.wp
  simp [execOp, ho, resolve, invoke, builtin, hs, hx, hr, Result.andThen]
  exact hK v' w' h2 h3 h5
theorem OwnPai.lay {B : Nat} {w X : World} {v : Value} {zs : List Pai} (h : OwnPai B w v zs) (hx : X.heap = w.heap) (o : Obj) : OwnPai B (X.alloc o) v zs := by
  have h1 : OwnPai B X v zs := by
    unfold OwnPai World.ownsRow at *
    rw [hx]
    exact h
  exact World.ownsRow.alloc h1 o
theorem ownPai_empty {B : Nat} {W : World} {g : Nat} (hB : B ≤ g) (h : W.heap[g]? = some (.cells #[] 48)) : OwnPai B W (.slice (some ⟨g, 0, none⟩) 0 0) [] :=
  ⟨rfl, .inr ⟨g, 0, #[], rfl, hB, h, Nat.le_refl _, by simp [maxLen], rfl, rfl⟩⟩
/-- One that is typed out. -/
theorem pai_at {X : World} {g : Nat} (c : Pai) (h : X.heap[g]? = some (.cells #[.int .i64 c.k, .int .i64 c.v] 48)) : Pais 0 X (.slice (some ⟨g, 0, none⟩) 1 1) [c] := by
  refine .inr ⟨g, 0, 1, rfl, Nat.zero_le _, heap_lt h, by simp, fun k hk => ?_⟩
  have : k = 0 := by simpa using hk
  subst this
  simp only [World.cell?, h]
  simp
theorem pai_lit (c : Pai) (X : World) : Pais 0 (X.alloc (.cells #[.int .i64 c.k, .int .i64 c.v] 48)) (.slice (some ⟨X.heap.size, 0, none⟩) 1 1) [c] := pai_at c (heap_alloc_at _ _ _ rfl)

theorem pai_flat : flatB Tryd.prog 8 48 = true := by kernel_rfl
theorem pai_cells : Tryd.prog.cellsOf 48 = 2 := by kernel_rfl
section
variable {H : Type} {enc : TypeId × Value → H} {w : World}
set_option maxRecDepth 100000 in
theorem open_pais {r : Reach} {b0 : Nat} {v : Value} {d : DataW H} {p : List MemPlace} (hv : Value.okWide Tryd.prog w r b0 27 v) (h : DataW.Trod enc Tryd.prog w 0 (fun _ => true) true 27 v d p) : ∃ xs, (∃ p c, v = .slice p xs.length c ∧ xs.length ≤ c) ∧ Pais 0 w v xs ∧ ∀ x ∈ xs, Pai.ok x := by
  obtain ⟨q, len, cap, G, rfl, hqc, hlc, hl, hG, hc⟩ := open_flat Tryd.underlying27 pai_flat (by rw [pai_cells]; decide) hv h
  rw [pai_cells] at hc
  have hlen : ((List.range len).map fun k => (⟨G k 0, G k 1⟩ : Pai)).length = len := by simp
  refine ⟨(List.range len).map fun k => ⟨G k 0, G k 1⟩, ⟨q, cap, by rw [hlen], by rw [hlen]; exact hlc⟩, ?_, fun x hx => ?_⟩
  · by_cases h0 : len = 0
    · subst h0
      exact .inl ⟨⟨_, _, rfl, hqc⟩, rfl⟩
    · obtain ⟨g, o, hq, hg, _⟩ := hc 0 (by omega)
      subst hq
      refine .inr ⟨g, o, cap, by rw [hlen], Nat.zero_le _, hg, by rw [hlen]; exact hl, fun k hk => ?_⟩
      rw [hlen] at hk
      obtain ⟨g', o', hq, _, hcc⟩ := hc k hk
      simp only [Option.some.injEq, Addr.mk.injEq, and_true] at hq
      obtain ⟨rfl, rfl⟩ := hq
      have hget : ((List.range len).map fun k => (⟨G k 0, G k 1⟩ : Pai)).getD k Pai.zero = ⟨G k 0, G k 1⟩ := by simp [List.getD_eq_getElem?_getD, hk]
      rw [hget]
      exact ⟨hcc 0 (by omega), hcc 1 (by omega)⟩
  · obtain ⟨k, _, rfl⟩ := List.mem_map.1 hx
    exact ⟨hG k 0, hG k 1⟩
set_option maxRecDepth 100000 in
theorem open_pai {r : Reach} {b0 : Nat} {v : Value} {d : DataW H} {p : List MemPlace} {base : Nat} {spare : Nat → Bool} {held : Bool} (hv : Value.okWide Tryd.prog w r b0 48 v) (h : DataW.Trod enc Tryd.prog w base spare held 48 v d p) : ∃ x : Pai, Pai.ok x ∧ v = .agg #[.int .i64 x.k, .int .i64 x.v] := by
  obtain ⟨G, hG, hv'⟩ := open_flat1 Tryd.underlying48 pai_flat hv h
  rw [pai_cells] at hv'
  exact ⟨⟨G 0, G 1⟩, ⟨hG 0, hG 1⟩, hv'⟩
end
end Go.Proofs.YtakgepdlninnhaaDoor.F
namespace Go.Proofs.YtakgepdlninnhaaDoor.F
open Go.ChangeShapes Go.WideShapes Go.ChangeAt Go.RowKit Base
/-- Are two alike? -/
def Pai.beq (x y : Pai) : Bool := decide (x.k = y.k) && decide (x.v = y.v)
theorem Pai.beq_iff (x y : Pai) : Pai.beq x y = true ↔ x = y := by
  unfold Pai.beq
  constructor
  · intro h
    simp only [Bool.and_eq_true, decide_eq_true_eq] at h
    cases x; cases y
    simp_all
  · intro h
    subst h
    simp
theorem Pai.beq_self (x : Pai) : Pai.beq x x = true := (Pai.beq_iff x x).2 rfl
set_option maxHeartbeats 4000000 in
theorem eq_pai (x y : Pai) (w : World) : (binOp .eql 48 (.agg #[.int .i64 x.k, .int .i64 x.v]) (.agg #[.int .i64 y.k, .int .i64 y.v])).run Tryd.prog w = .ok (.bool (Pai.beq x y)) w := by
  have u3 := Tryd.underlying3
  have a3 := Tryd.isAgg3
  have z3 := Tryd.sizeOf3
  have hS : Tryd.prog.underlying 48 = some (.struct (Tryd.prog.fieldsOf 48)) := by kernel_rfl
  have hp : Tryd.prog.stoodInHeld 48 = false := by kernel_rfl
  rw [run_eql_struct, show (10000 : Nat) = 9999 + 1 from rfl, run_equalIn_agg w 9999 48 _ _ hS hp]
  simp only [Program.fieldsOf, Tryd.underlying48]
  go_simp
  obtain ⟨x0, x1⟩ := x
  obtain ⟨y0, y1⟩ := y
  unfold Pai.beq
  by_cases h0 : x0 = y0 <;> by_cases h1 : x1 = y1 <;> simp [h0, h1]
set_option maxHeartbeats 4000000 in
theorem ne_pai (x y : Pai) (w : World) : (binOp .neq 48 (.agg #[.int .i64 x.k, .int .i64 x.v]) (.agg #[.int .i64 y.k, .int .i64 y.v])).run Tryd.prog w = .ok (.bool (!Pai.beq x y)) w := by
  have u3 := Tryd.underlying3
  have a3 := Tryd.isAgg3
  have z3 := Tryd.sizeOf3
  have hS : Tryd.prog.underlying 48 = some (.struct (Tryd.prog.fieldsOf 48)) := by kernel_rfl
  have hp : Tryd.prog.stoodInHeld 48 = false := by kernel_rfl
  rw [run_neq_struct, show (10000 : Nat) = 9999 + 1 from rfl, run_equalIn_agg w 9999 48 _ _ hS hp]
  simp only [Program.fieldsOf, Tryd.underlying48]
  go_simp
  obtain ⟨x0, x1⟩ := x
  obtain ⟨y0, y1⟩ := y
  unfold Pai.beq
  by_cases h0 : x0 = y0 <;> by_cases h1 : x1 = y1 <;> simp [h0, h1]
end Go.Proofs.YtakgepdlninnhaaDoor.F
namespace Go.Proofs.YtakgepdlninnhaaDoor.F
open Go.ChangeShapes Go.WideShapes Go.ChangeAt Go.RowKit Base
/-- A value of the struct. -/
structure Arc where
  fr : Int
  to : Int
  kd : Int
  lb : Int
def Arc.zero : Arc := ⟨0, 0, 0, 0⟩
/-- Its cells. -/
def Arc.vals (x : Arc) : List Value := [.int .i64 x.fr, .int .i64 x.to, .int .i64 x.kd, .int .i64 x.lb]
/-- Its fields are ints of 64 bits. -/
def Arc.ok (x : Arc) : Prop := (-9223372036854775808 ≤ x.fr ∧ x.fr ≤ 9223372036854775807) ∧ (-9223372036854775808 ≤ x.to ∧ x.to ≤ 9223372036854775807) ∧ (-9223372036854775808 ≤ x.kd ∧ x.kd ≤ 9223372036854775807) ∧ (-9223372036854775808 ≤ x.lb ∧ x.lb ≤ 9223372036854775807)
/-- The slice v, whose elements lie from block base on, holds xs. -/
def Arcs (base : Nat) (w : World) (v : Value) (xs : List Arc) : Prop :=
  ((∃ p c, v = .slice p 0 c ∧ (p = none → c = 0)) ∧ xs = []) ∨ ∃ g o c, v = .slice (some ⟨g, o, none⟩) xs.length c ∧ base ≤ g ∧ g < w.heap.size ∧ xs.length ≤ 9223372036854775807 ∧ ∀ k, k < xs.length →
    w.cell? ⟨g, o + k * 4, none⟩ = some (.int .i64 (xs.getD k Arc.zero).fr) ∧ w.cell? ⟨g, o + k * 4 + 1, none⟩ = some (.int .i64 (xs.getD k Arc.zero).to) ∧ w.cell? ⟨g, o + k * 4 + 2, none⟩ = some (.int .i64 (xs.getD k Arc.zero).kd) ∧ w.cell? ⟨g, o + k * 4 + 3, none⟩ = some (.int .i64 (xs.getD k Arc.zero).lb)
theorem Arcs.kept {base base' : Nat} {w w1 : World} {v : Value} {xs : List Arc} (h : Arcs base w v xs) (hb : ∀ g, base ≤ g → g < w.heap.size → w1.heap[g]? = w.heap[g]? ∧ base' ≤ g) (hs : w.heap.size ≤ w1.heap.size) : Arcs base' w1 v xs := by
  rcases h with h | ⟨g, o, c, hv, h0, h1, h2, h3⟩
  · exact .inl h
  · refine .inr ⟨g, o, c, hv, (hb g h0 h1).2, Nat.lt_of_lt_of_le h1 hs, h2, fun k hk => ?_⟩
    have key : ∀ j, w1.cell? ⟨g, j, none⟩ = w.cell? ⟨g, j, none⟩ := fun j => World.cell?_of_block (a := ⟨g, j, none⟩) (hb g h0 h1).1
    simp only [key]
    exact h3 k hk
theorem Arcs.below {base : Nat} {w w1 : World} {v : Value} {xs : List Arc} (h : Arcs base w v xs) (hb : Below w.heap.size w w1) : Arcs base w1 v xs :=
  h.kept (fun g h0 h1 => ⟨hb.block g h1, h0⟩) hb.size
theorem Arcs.grown {base : Nat} {w w1 : World} {v : Value} {xs : List Arc} {x : Option Nat} (h : Arcs base w v xs) (hg : w.grownBy w1 x) (hx : ∀ b, x = some b → b < base) : Arcs base w1 v xs :=
  h.kept (fun g h0 h1 => ⟨hg.block g h1 (fun e => by have := hx g e.symm; omega), h0⟩) hg.size
theorem Arcs.mono {base base' : Nat} {w : World} {v : Value} {xs : List Arc} (h : Arcs base w v xs) (hb : base' ≤ base) : Arcs base' w v xs :=
  h.kept (fun _ h0 _ => ⟨rfl, Nat.le_trans hb h0⟩) (Nat.le_refl _)
theorem Arcs.open_ {base : Nat} {w : World} {v : Value} {xs : List Arc} (h : Arcs base w v xs) : ∃ p c, v = .slice p xs.length c ∧ xs.length ≤ 9223372036854775807 ∧ ∀ k, k < xs.length → ∃ g o, p = some ⟨g, o, none⟩ ∧ base ≤ g ∧ g < w.heap.size ∧
    w.cell? ⟨g, o + k * 4, none⟩ = some (.int .i64 (xs.getD k Arc.zero).fr) ∧ w.cell? ⟨g, o + k * 4 + 1, none⟩ = some (.int .i64 (xs.getD k Arc.zero).to) ∧ w.cell? ⟨g, o + k * 4 + 2, none⟩ = some (.int .i64 (xs.getD k Arc.zero).kd) ∧ w.cell? ⟨g, o + k * 4 + 3, none⟩ = some (.int .i64 (xs.getD k Arc.zero).lb) := by
  rcases h with ⟨⟨p, c, hv⟩, rfl⟩ | ⟨g, o, c, hv, h0, h1, h2, h3⟩
  · exact ⟨p, c, hv.1, by simp, fun k hk => absurd hk (by simp)⟩
  · exact ⟨_, c, hv, h2, fun k hk => ⟨g, o, rfl, h0, h1, h3 k hk⟩⟩
theorem Arcs.nil {base : Nat} {w : World} : Arcs base w (.slice none 0 0) [] := .inl ⟨⟨_, _, rfl, fun _ => rfl⟩, rfl⟩
theorem arc_flat_len (zs : List Arc) : (zs.flatMap Arc.vals).length = zs.length * 4 := by
  induction zs with
  | nil => rfl
  | cons x zs ih => rw [List.flatMap_cons, List.length_append, ih]; simp [Arc.vals]; omega
theorem arc_flat_get : ∀ (zs : List Arc) (k j : Nat), k < zs.length → j < 4 → (zs.flatMap Arc.vals)[k * 4 + j]? = (Arc.vals (zs.getD k Arc.zero))[j]?
  | x :: zs, 0, j, _, hj => by
    rw [List.flatMap_cons, List.getElem?_append_left (by simp [Arc.vals]; omega)]
    simp
  | x :: zs, k + 1, j, hk, hj => by
    rw [List.flatMap_cons, List.getElem?_append_right (by simp [Arc.vals]; omega), show (k + 1) * 4 + j - (Arc.vals x).length = k * 4 + j by simp [Arc.vals]; omega, arc_flat_get zs k j (by simpa using hk) hj]
    rfl
theorem arc_flat_take (zs : List Arc) (m : Nat) : (zs.flatMap Arc.vals).take (m * 4) = (zs.take m).flatMap Arc.vals := by
  induction zs generalizing m with
  | nil => simp
  | cons x zs ih =>
    cases m with
    | zero => simp
    | succ m =>
      rw [List.flatMap_cons, List.take_succ_cons, List.flatMap_cons, ← ih m, List.take_append, List.take_of_length_le (by simp [Arc.vals]; omega)]
      congr 2
      simp [Arc.vals]; omega
theorem arc_vals_one (zs : List Arc) : ∀ u ∈ zs.flatMap Arc.vals, u.oneCell' = true := by
  intro u hu
  obtain ⟨x, _, hx⟩ := List.mem_flatMap.1 hu
  simp only [Arc.vals, List.mem_cons, List.not_mem_nil, or_false] at hx
  rcases hx with rfl | rfl | rfl | rfl <;> rfl
/-- The slice v, which the call made itself from block B on, holds zs. -/
def OwnArc (B : Nat) (w : World) (v : Value) (zs : List Arc) : Prop := w.ownsRow B 68 4 v zs.length (zs.flatMap Arc.vals)
theorem OwnArc.nil (B : Nat) (w : World) : OwnArc B w (.slice none 0 0) [] := World.ownsRow_nil _ _ _ _
theorem OwnArc.list {B : Nat} {w : World} {v : Value} {zs : List Arc} (h : OwnArc B w v zs) (hl : zs.length ≤ 9223372036854775807) : Arcs B w v zs := by
  have h' := h
  rcases h.2 with ⟨hv, h0⟩ | ⟨g, cap, cur, hv, hB, h2, _⟩
  · exact .inl ⟨⟨_, _, hv, fun _ => rfl⟩, List.length_eq_zero_iff.1 h0⟩
  · subst hv
    have hc : ∀ k j, k < zs.length → j < 4 → w.cell? ⟨g, 0 + k * 4 + j, none⟩ = (Arc.vals (zs.getD k Arc.zero))[j]? := fun k j hk hj => by
      rw [Nat.zero_add, ← arc_flat_get zs k j hk hj]
      exact World.ownsRow.cellAt h' (k * 4 + j) (by omega)
    exact .inr ⟨g, 0, cap, rfl, hB, heap_lt h2, hl, fun k hk => ⟨hc k 0 hk (by omega), hc k 1 hk (by omega), hc k 2 hk (by omega), hc k 3 hk (by omega)⟩⟩
theorem OwnArc.kept {B : Nat} {w w1 : World} {v : Value} {zs : List Arc} (h : OwnArc B w v zs) {row : Option Nat} (hg : w.grownBy w1 row) (hne : v.ownBlock = none ∨ v.ownBlock ≠ row) : OwnArc B w1 v zs := World.ownsRow.kept h hg hne
theorem OwnArc.below {B : Nat} {w w1 : World} {v : Value} {zs : List Arc} (h : OwnArc B w v zs) (hb : Below w.heap.size w w1) : OwnArc B w1 v zs :=
  World.ownsRow.kept h (row := none) ⟨hb.os, hb.tape, hb.output, hb.size, fun k hk _ => hb.block k hk⟩ (by cases v.ownBlock <;> simp)
theorem OwnArc.base {B : Nat} {w : World} {v : Value} {zs : List Arc} (h : OwnArc B w v zs) : ∀ k, v.ownBlock = some k → B ≤ k ∧ k < w.heap.size := World.ownsRow.lt h
/-- The first m of it, in the same place. -/
theorem OwnArc.cut {B : Nat} {w : World} {p : Option Addr} {n c : Nat} {zs : List Arc} (h : OwnArc B w (.slice p n c) zs) {m : Nat} (hm : m ≤ zs.length) : OwnArc B w (.slice p m c) (zs.take m) := by
  obtain ⟨hl, h⟩ := h
  have hlen : (zs.take m).length = m := by rw [List.length_take]; omega
  refine ⟨by rw [arc_flat_len], ?_⟩
  rw [hlen]
  rcases h with ⟨hv, h0⟩ | ⟨g, cap, cur, hv, h1, h2, h3, h4, h5, h6⟩
  · injection hv with e1 e2 e3
    subst e1 e3
    obtain rfl : m = 0 := by omega
    exact .inl ⟨rfl, rfl⟩
  · injection hv with e1 e2 e3
    subst e1 e3
    refine .inr ⟨g, c, cur, rfl, h1, h2, by omega, h4, h5, ?_⟩
    rw [← arc_flat_take, ← h6, List.take_take]
    congr 1
    have := Nat.mul_le_mul_right 4 hm
    omega
theorem arc_info : (Tryd.prog.info? 68).map (fun i => (i.zero, i.size, i.bytes)) = some (some (.agg #[.int .i64 0, .int .i64 0, .int .i64 0, .int .i64 0]), 4, 32) := by kernel_rfl
theorem run_append_arcs {B base : Nat} {w : World} {v u : Value} {zs ys : List Arc} (ty : TypeId)
    (hB : B ≤ w.heap.size) (hown : OwnArc B w v zs) (hys : Arcs base w u ys) (hl : zs.length + ys.length ≤ 1000000) :
    ∃ v' w', (Builtin.append_ #[57, 57] ty #[v, u]).run Tryd.prog w = .ok v' w' ∧ OwnArc B w' v' (zs ++ ys) ∧ w.grownBy w' v.ownBlock ∧ (v'.ownBlock = v.ownBlock ∨ v'.ownBlock = some w.heap.size) := by
  obtain ⟨i0, hi, hz0, hz1, hz2⟩ := info_parts arc_info
  rcases hys with ⟨⟨p, c, rfl, hpc⟩, rfl⟩ | ⟨g, o', c, rfl, _, _, _, hc⟩
  · cases p with
    | none =>
      obtain rfl := hpc rfl
      exact ⟨v, w, run_append_owned_none (P := Tryd.prog) (w := w) B 57 ty 68 i0 4 Tryd.underlying57 hi v zs.length (zs.flatMap Arc.vals) hown, by rw [List.append_nil]; exact hown, World.grownBy.refl _ _, .inl rfl⟩
    | some ad =>
      obtain ⟨v', w', hr, h2, h3, _, h5⟩ := run_append_own_at (P := Tryd.prog) w B 57 ty 68 i0 (.agg #[.int .i64 0, .int .i64 0, .int .i64 0, .int .i64 0]) 4 32 Tryd.underlying57 hi hz0 hz1 hz2 rfl (by decide) v zs.length (zs.flatMap Arc.vals) hown ad 0 c [] (by simp) (by simp) (by simp) (by simp only [maxLen]; omega) (by omega) hB
      refine ⟨v', w', hr, ?_, h3, h5⟩
      rw [List.append_nil]
      unfold OwnArc
      simpa using h2
  · obtain ⟨v', w', hr, h2, h3, _, h5⟩ := run_append_own_at (P := Tryd.prog) w B 57 ty 68 i0 (.agg #[.int .i64 0, .int .i64 0, .int .i64 0, .int .i64 0]) 4 32 Tryd.underlying57 hi hz0 hz1 hz2 rfl (by decide) v zs.length (zs.flatMap Arc.vals) hown ⟨g, o', none⟩ ys.length c (ys.flatMap Arc.vals) (arc_flat_len ys) (by
      intro t y hy
      have ht : t < ys.length * 4 := by rw [← arc_flat_len ys]; exact (List.getElem?_eq_some_iff.1 hy).1
      have hk : t / 4 < ys.length := by omega
      have hr : t % 4 < 4 := Nat.mod_lt _ (by decide)
      have e : t = t / 4 * 4 + t % 4 := by omega
      have hcc := hc (t / 4) hk
      rw [e, arc_flat_get ys _ _ hk hr] at hy
      rw [add_plain, e]
      generalize t / 4 = k at hcc hy
      generalize t % 4 = j at hr hy
      obtain ⟨c0, c1, c2, c3⟩ := hcc
      match j, hr, hy with
      | 0, _, hy => simp [Arc.vals] at hy; subst hy; simpa [Nat.add_assoc] using c0
      | 1, _, hy => simp [Arc.vals] at hy; subst hy; simpa [Nat.add_assoc] using c1
      | 2, _, hy => simp [Arc.vals] at hy; subst hy; simpa [Nat.add_assoc] using c2
      | 3, _, hy => simp [Arc.vals] at hy; subst hy; simpa [Nat.add_assoc] using c3) (arc_vals_one ys) (by simp only [maxLen]; omega) (by omega) hB
    refine ⟨v', w', hr, ?_, h3, h5⟩
    unfold OwnArc
    rw [List.length_append, List.flatMap_append]
    exact h2
/-- Some are put behind a slice of the call's own. -/
theorem append_arcs {ops : Array Oper} {rest : List Oper} {o : Oper} {a : Act} {Q : Exit → Act → World → Prop} (hgd : o.guard = none) (s x : Operand)
    (ho : o.op = .call { callee := .builtin .append, args := #[s, x], argTypes := #[57, 57] }) {B base : Nat} {w : World} {v u : Value} {zs ys : List Arc}
    (hB : B ≤ w.heap.size) (hown : OwnArc B w v zs) (hs : a.eval s = v) (hys : Arcs base w u ys) (hx : a.eval x = u) (hl : zs.length + ys.length ≤ 1000000)
    (h : ∀ v' w', OwnArc B w' v' (zs ++ ys) → w.grownBy w' v.ownBlock → (v'.ownBlock = v.ownBlock ∨ v'.ownBlock = some w.heap.size) → wpList Tryd.prog ops Q rest (a.put o.dst v') w') :
    wpList Tryd.prog ops Q (o :: rest) a w := by
  refine wpList_plain hgd fun K hK => ?_
  obtain ⟨v', w', hr, h2, h3, h5⟩ := run_append_arcs o.type hB hown hys hl
  unfold Oper.wp execOp
  simp only [ho, resolve, invoke, builtin, Sem.run_bind, Sem.run_pure, Result.andThen_ok, List.map_toArray, List.map_cons, List.map_nil, hs, hx, hr]
  exact hK _ _ (h v' w' h2 h3 h5)
/-- The same, as one step of a region that draws its order. -/
theorem step_append_arcs {ops : Array Oper} {o : Oper} {a : Act} {w : World} {K : Act → World → Prop} {Q : Exit → Act → World → Prop} {E : Prop} (hgd : o.guard = none) (s x : Operand)
    (ho : o.op = .call { callee := .builtin .append, args := #[s, x], argTypes := #[57, 57] }) {B base : Nat} {v u : Value} {zs ys : List Arc}
    (hB : B ≤ w.heap.size) (hown : OwnArc B w v zs) (hs : a.eval s = v) (hys : Arcs base w u ys) (hx : a.eval x = u) (hl : zs.length + ys.length ≤ 1000000)
    (hK : ∀ v' w', OwnArc B w' v' (zs ++ ys) → w.grownBy w' v.ownBlock → (v'.ownBlock = v.ownBlock ∨ v'.ownBlock = some w.heap.size) → K (a.put o.dst v') w') :
    if Region.wanted o (yielded ops a.tmps) = true then Oper.wp Tryd.prog o a w K Q else E := by
  rw [if_pos (by simp [Region.wanted, hgd])]
  obtain ⟨v', w', hr, h2, h3, h5⟩ := run_append_arcs o.type hB hown hys hl
  unfold Oper.wp
  simp [execOp, ho, resolve, invoke, builtin, hs, hx, hr, Result.andThen]
  exact hK v' w' h2 h3 h5
theorem OwnArc.lay {B : Nat} {w X : World} {v : Value} {zs : List Arc} (h : OwnArc B w v zs) (hx : X.heap = w.heap) (o : Obj) : OwnArc B (X.alloc o) v zs := by
  have h1 : OwnArc B X v zs := by
    unfold OwnArc World.ownsRow at *
    rw [hx]
    exact h
  exact World.ownsRow.alloc h1 o
theorem ownArc_empty {B : Nat} {W : World} {g : Nat} (hB : B ≤ g) (h : W.heap[g]? = some (.cells #[] 68)) : OwnArc B W (.slice (some ⟨g, 0, none⟩) 0 0) [] :=
  ⟨rfl, .inr ⟨g, 0, #[], rfl, hB, h, Nat.le_refl _, by simp [maxLen], rfl, rfl⟩⟩
/-- One that is typed out. -/
theorem arc_at {X : World} {g : Nat} (c : Arc) (h : X.heap[g]? = some (.cells #[.int .i64 c.fr, .int .i64 c.to, .int .i64 c.kd, .int .i64 c.lb] 68)) : Arcs 0 X (.slice (some ⟨g, 0, none⟩) 1 1) [c] := by
  refine .inr ⟨g, 0, 1, rfl, Nat.zero_le _, heap_lt h, by simp, fun k hk => ?_⟩
  have : k = 0 := by simpa using hk
  subst this
  simp only [World.cell?, h]
  simp
theorem arc_lit (c : Arc) (X : World) : Arcs 0 (X.alloc (.cells #[.int .i64 c.fr, .int .i64 c.to, .int .i64 c.kd, .int .i64 c.lb] 68)) (.slice (some ⟨X.heap.size, 0, none⟩) 1 1) [c] := arc_at c (heap_alloc_at _ _ _ rfl)

theorem arc_flat : flatB Tryd.prog 8 68 = true := by kernel_rfl
theorem arc_cells : Tryd.prog.cellsOf 68 = 4 := by kernel_rfl
section
variable {H : Type} {enc : TypeId × Value → H} {w : World}
set_option maxRecDepth 100000 in
theorem open_arcs {r : Reach} {b0 : Nat} {v : Value} {d : DataW H} {p : List MemPlace} (hv : Value.okWide Tryd.prog w r b0 57 v) (h : DataW.Trod enc Tryd.prog w 0 (fun _ => true) true 57 v d p) : ∃ xs, (∃ p c, v = .slice p xs.length c ∧ xs.length ≤ c) ∧ Arcs 0 w v xs ∧ ∀ x ∈ xs, Arc.ok x := by
  obtain ⟨q, len, cap, G, rfl, hqc, hlc, hl, hG, hc⟩ := open_flat Tryd.underlying57 arc_flat (by rw [arc_cells]; decide) hv h
  rw [arc_cells] at hc
  have hlen : ((List.range len).map fun k => (⟨G k 0, G k 1, G k 2, G k 3⟩ : Arc)).length = len := by simp
  refine ⟨(List.range len).map fun k => ⟨G k 0, G k 1, G k 2, G k 3⟩, ⟨q, cap, by rw [hlen], by rw [hlen]; exact hlc⟩, ?_, fun x hx => ?_⟩
  · by_cases h0 : len = 0
    · subst h0
      exact .inl ⟨⟨_, _, rfl, hqc⟩, rfl⟩
    · obtain ⟨g, o, hq, hg, _⟩ := hc 0 (by omega)
      subst hq
      refine .inr ⟨g, o, cap, by rw [hlen], Nat.zero_le _, hg, by rw [hlen]; exact hl, fun k hk => ?_⟩
      rw [hlen] at hk
      obtain ⟨g', o', hq, _, hcc⟩ := hc k hk
      simp only [Option.some.injEq, Addr.mk.injEq, and_true] at hq
      obtain ⟨rfl, rfl⟩ := hq
      have hget : ((List.range len).map fun k => (⟨G k 0, G k 1, G k 2, G k 3⟩ : Arc)).getD k Arc.zero = ⟨G k 0, G k 1, G k 2, G k 3⟩ := by simp [List.getD_eq_getElem?_getD, hk]
      rw [hget]
      exact ⟨hcc 0 (by omega), hcc 1 (by omega), hcc 2 (by omega), hcc 3 (by omega)⟩
  · obtain ⟨k, _, rfl⟩ := List.mem_map.1 hx
    exact ⟨hG k 0, hG k 1, hG k 2, hG k 3⟩
set_option maxRecDepth 100000 in
theorem open_arc {r : Reach} {b0 : Nat} {v : Value} {d : DataW H} {p : List MemPlace} {base : Nat} {spare : Nat → Bool} {held : Bool} (hv : Value.okWide Tryd.prog w r b0 68 v) (h : DataW.Trod enc Tryd.prog w base spare held 68 v d p) : ∃ x : Arc, Arc.ok x ∧ v = .agg #[.int .i64 x.fr, .int .i64 x.to, .int .i64 x.kd, .int .i64 x.lb] := by
  obtain ⟨G, hG, hv'⟩ := open_flat1 Tryd.underlying68 arc_flat hv h
  rw [arc_cells] at hv'
  exact ⟨⟨G 0, G 1, G 2, G 3⟩, ⟨hG 0, hG 1, hG 2, hG 3⟩, hv'⟩
end
end Go.Proofs.YtakgepdlninnhaaDoor.F
namespace Go.Proofs.YtakgepdlninnhaaDoor.F
open Go.ChangeShapes Go.WideShapes Go.ChangeAt Go.RowKit Base
/-- Are two alike? -/
def Arc.beq (x y : Arc) : Bool := decide (x.fr = y.fr) && decide (x.to = y.to) && decide (x.kd = y.kd) && decide (x.lb = y.lb)
theorem Arc.beq_iff (x y : Arc) : Arc.beq x y = true ↔ x = y := by
  unfold Arc.beq
  constructor
  · intro h
    simp only [Bool.and_eq_true, decide_eq_true_eq] at h
    cases x; cases y
    simp_all
  · intro h
    subst h
    simp
theorem Arc.beq_self (x : Arc) : Arc.beq x x = true := (Arc.beq_iff x x).2 rfl
set_option maxHeartbeats 4000000 in
theorem eq_arc (x y : Arc) (w : World) : (binOp .eql 68 (.agg #[.int .i64 x.fr, .int .i64 x.to, .int .i64 x.kd, .int .i64 x.lb]) (.agg #[.int .i64 y.fr, .int .i64 y.to, .int .i64 y.kd, .int .i64 y.lb])).run Tryd.prog w = .ok (.bool (Arc.beq x y)) w := by
  have u3 := Tryd.underlying3
  have a3 := Tryd.isAgg3
  have z3 := Tryd.sizeOf3
  have hS : Tryd.prog.underlying 68 = some (.struct (Tryd.prog.fieldsOf 68)) := by kernel_rfl
  have hp : Tryd.prog.stoodInHeld 68 = false := by kernel_rfl
  rw [run_eql_struct, show (10000 : Nat) = 9999 + 1 from rfl, run_equalIn_agg w 9999 68 _ _ hS hp]
  simp only [Program.fieldsOf, Tryd.underlying68]
  go_simp
  obtain ⟨x0, x1, x2, x3⟩ := x
  obtain ⟨y0, y1, y2, y3⟩ := y
  unfold Arc.beq
  by_cases h0 : x0 = y0 <;> by_cases h1 : x1 = y1 <;> by_cases h2 : x2 = y2 <;> by_cases h3 : x3 = y3 <;> simp [h0, h1, h2, h3]
set_option maxHeartbeats 4000000 in
theorem ne_arc (x y : Arc) (w : World) : (binOp .neq 68 (.agg #[.int .i64 x.fr, .int .i64 x.to, .int .i64 x.kd, .int .i64 x.lb]) (.agg #[.int .i64 y.fr, .int .i64 y.to, .int .i64 y.kd, .int .i64 y.lb])).run Tryd.prog w = .ok (.bool (!Arc.beq x y)) w := by
  have u3 := Tryd.underlying3
  have a3 := Tryd.isAgg3
  have z3 := Tryd.sizeOf3
  have hS : Tryd.prog.underlying 68 = some (.struct (Tryd.prog.fieldsOf 68)) := by kernel_rfl
  have hp : Tryd.prog.stoodInHeld 68 = false := by kernel_rfl
  rw [run_neq_struct, show (10000 : Nat) = 9999 + 1 from rfl, run_equalIn_agg w 9999 68 _ _ hS hp]
  simp only [Program.fieldsOf, Tryd.underlying68]
  go_simp
  obtain ⟨x0, x1, x2, x3⟩ := x
  obtain ⟨y0, y1, y2, y3⟩ := y
  unfold Arc.beq
  by_cases h0 : x0 = y0 <;> by_cases h1 : x1 = y1 <;> by_cases h2 : x2 = y2 <;> by_cases h3 : x3 = y3 <;> simp [h0, h1, h2, h3]
end Go.Proofs.YtakgepdlninnhaaDoor.F
namespace Go.Proofs.YtakgepdlninnhaaDoor.F
open Go.ChangeShapes Go.WideShapes Go.ChangeAt Go.RowKit Base
/-- A value of the struct. -/
structure Cel where
  l : Int
  r : Int
  k : Int
  v : Int
  s : Int
  h : Int
def Cel.zero : Cel := ⟨0, 0, 0, 0, 0, 0⟩
/-- Its cells. -/
def Cel.vals (x : Cel) : List Value := [.int .i64 x.l, .int .i64 x.r, .int .i64 x.k, .int .i64 x.v, .int .i64 x.s, .int .i64 x.h]
/-- Its fields are ints of 64 bits. -/
def Cel.ok (x : Cel) : Prop := (-9223372036854775808 ≤ x.l ∧ x.l ≤ 9223372036854775807) ∧ (-9223372036854775808 ≤ x.r ∧ x.r ≤ 9223372036854775807) ∧ (-9223372036854775808 ≤ x.k ∧ x.k ≤ 9223372036854775807) ∧ (-9223372036854775808 ≤ x.v ∧ x.v ≤ 9223372036854775807) ∧ (-9223372036854775808 ≤ x.s ∧ x.s ≤ 9223372036854775807) ∧ (-9223372036854775808 ≤ x.h ∧ x.h ≤ 9223372036854775807)
/-- The slice v, whose elements lie from block base on, holds xs. -/
def Cels (base : Nat) (w : World) (v : Value) (xs : List Cel) : Prop :=
  ((∃ p c, v = .slice p 0 c ∧ (p = none → c = 0)) ∧ xs = []) ∨ ∃ g o c, v = .slice (some ⟨g, o, none⟩) xs.length c ∧ base ≤ g ∧ g < w.heap.size ∧ xs.length ≤ 9223372036854775807 ∧ ∀ k, k < xs.length →
    w.cell? ⟨g, o + k * 6, none⟩ = some (.int .i64 (xs.getD k Cel.zero).l) ∧ w.cell? ⟨g, o + k * 6 + 1, none⟩ = some (.int .i64 (xs.getD k Cel.zero).r) ∧ w.cell? ⟨g, o + k * 6 + 2, none⟩ = some (.int .i64 (xs.getD k Cel.zero).k) ∧ w.cell? ⟨g, o + k * 6 + 3, none⟩ = some (.int .i64 (xs.getD k Cel.zero).v) ∧ w.cell? ⟨g, o + k * 6 + 4, none⟩ = some (.int .i64 (xs.getD k Cel.zero).s) ∧ w.cell? ⟨g, o + k * 6 + 5, none⟩ = some (.int .i64 (xs.getD k Cel.zero).h)
theorem Cels.kept {base base' : Nat} {w w1 : World} {v : Value} {xs : List Cel} (h : Cels base w v xs) (hb : ∀ g, base ≤ g → g < w.heap.size → w1.heap[g]? = w.heap[g]? ∧ base' ≤ g) (hs : w.heap.size ≤ w1.heap.size) : Cels base' w1 v xs := by
  rcases h with h | ⟨g, o, c, hv, h0, h1, h2, h3⟩
  · exact .inl h
  · refine .inr ⟨g, o, c, hv, (hb g h0 h1).2, Nat.lt_of_lt_of_le h1 hs, h2, fun k hk => ?_⟩
    have key : ∀ j, w1.cell? ⟨g, j, none⟩ = w.cell? ⟨g, j, none⟩ := fun j => World.cell?_of_block (a := ⟨g, j, none⟩) (hb g h0 h1).1
    simp only [key]
    exact h3 k hk
theorem Cels.below {base : Nat} {w w1 : World} {v : Value} {xs : List Cel} (h : Cels base w v xs) (hb : Below w.heap.size w w1) : Cels base w1 v xs :=
  h.kept (fun g h0 h1 => ⟨hb.block g h1, h0⟩) hb.size
theorem Cels.grown {base : Nat} {w w1 : World} {v : Value} {xs : List Cel} {x : Option Nat} (h : Cels base w v xs) (hg : w.grownBy w1 x) (hx : ∀ b, x = some b → b < base) : Cels base w1 v xs :=
  h.kept (fun g h0 h1 => ⟨hg.block g h1 (fun e => by have := hx g e.symm; omega), h0⟩) hg.size
theorem Cels.mono {base base' : Nat} {w : World} {v : Value} {xs : List Cel} (h : Cels base w v xs) (hb : base' ≤ base) : Cels base' w v xs :=
  h.kept (fun _ h0 _ => ⟨rfl, Nat.le_trans hb h0⟩) (Nat.le_refl _)
theorem Cels.open_ {base : Nat} {w : World} {v : Value} {xs : List Cel} (h : Cels base w v xs) : ∃ p c, v = .slice p xs.length c ∧ xs.length ≤ 9223372036854775807 ∧ ∀ k, k < xs.length → ∃ g o, p = some ⟨g, o, none⟩ ∧ base ≤ g ∧ g < w.heap.size ∧
    w.cell? ⟨g, o + k * 6, none⟩ = some (.int .i64 (xs.getD k Cel.zero).l) ∧ w.cell? ⟨g, o + k * 6 + 1, none⟩ = some (.int .i64 (xs.getD k Cel.zero).r) ∧ w.cell? ⟨g, o + k * 6 + 2, none⟩ = some (.int .i64 (xs.getD k Cel.zero).k) ∧ w.cell? ⟨g, o + k * 6 + 3, none⟩ = some (.int .i64 (xs.getD k Cel.zero).v) ∧ w.cell? ⟨g, o + k * 6 + 4, none⟩ = some (.int .i64 (xs.getD k Cel.zero).s) ∧ w.cell? ⟨g, o + k * 6 + 5, none⟩ = some (.int .i64 (xs.getD k Cel.zero).h) := by
  rcases h with ⟨⟨p, c, hv⟩, rfl⟩ | ⟨g, o, c, hv, h0, h1, h2, h3⟩
  · exact ⟨p, c, hv.1, by simp, fun k hk => absurd hk (by simp)⟩
  · exact ⟨_, c, hv, h2, fun k hk => ⟨g, o, rfl, h0, h1, h3 k hk⟩⟩
theorem Cels.nil {base : Nat} {w : World} : Cels base w (.slice none 0 0) [] := .inl ⟨⟨_, _, rfl, fun _ => rfl⟩, rfl⟩
theorem cel_flat_len (zs : List Cel) : (zs.flatMap Cel.vals).length = zs.length * 6 := by
  induction zs with
  | nil => rfl
  | cons x zs ih => rw [List.flatMap_cons, List.length_append, ih]; simp [Cel.vals]; omega
theorem cel_flat_get : ∀ (zs : List Cel) (k j : Nat), k < zs.length → j < 6 → (zs.flatMap Cel.vals)[k * 6 + j]? = (Cel.vals (zs.getD k Cel.zero))[j]?
  | x :: zs, 0, j, _, hj => by
    rw [List.flatMap_cons, List.getElem?_append_left (by simp [Cel.vals]; omega)]
    simp
  | x :: zs, k + 1, j, hk, hj => by
    rw [List.flatMap_cons, List.getElem?_append_right (by simp [Cel.vals]; omega), show (k + 1) * 6 + j - (Cel.vals x).length = k * 6 + j by simp [Cel.vals]; omega, cel_flat_get zs k j (by simpa using hk) hj]
    rfl
theorem cel_flat_take (zs : List Cel) (m : Nat) : (zs.flatMap Cel.vals).take (m * 6) = (zs.take m).flatMap Cel.vals := by
  induction zs generalizing m with
  | nil => simp
  | cons x zs ih =>
    cases m with
    | zero => simp
    | succ m =>
      rw [List.flatMap_cons, List.take_succ_cons, List.flatMap_cons, ← ih m, List.take_append, List.take_of_length_le (by simp [Cel.vals]; omega)]
      congr 2
      simp [Cel.vals]; omega
theorem cel_vals_one (zs : List Cel) : ∀ u ∈ zs.flatMap Cel.vals, u.oneCell' = true := by
  intro u hu
  obtain ⟨x, _, hx⟩ := List.mem_flatMap.1 hu
  simp only [Cel.vals, List.mem_cons, List.not_mem_nil, or_false] at hx
  rcases hx with rfl | rfl | rfl | rfl | rfl | rfl <;> rfl
section
variable {H : Type} {enc : TypeId × Value → H} {w : World}
end
end Go.Proofs.YtakgepdlninnhaaDoor.F
namespace Go.Proofs.YtakgepdlninnhaaDoor.F
open Go.ChangeShapes Go.WideShapes Go.ChangeAt Go.RowKit Base
/-- A value of the struct. -/
structure Dd24 where
  kind : Int
  u : Int
  v : Int
def Dd24.zero : Dd24 := ⟨0, 0, 0⟩
/-- Its cells. -/
def Dd24.vals (x : Dd24) : List Value := [.int .i64 x.kind, .int .i64 x.u, .int .i64 x.v]
/-- Its fields are ints of 64 bits. -/
def Dd24.ok (x : Dd24) : Prop := (-9223372036854775808 ≤ x.kind ∧ x.kind ≤ 9223372036854775807) ∧ (-9223372036854775808 ≤ x.u ∧ x.u ≤ 9223372036854775807) ∧ (-9223372036854775808 ≤ x.v ∧ x.v ≤ 9223372036854775807)
/-- The slice v, whose elements lie from block base on, holds xs. -/
def Dd24s (base : Nat) (w : World) (v : Value) (xs : List Dd24) : Prop :=
  ((∃ p c, v = .slice p 0 c ∧ (p = none → c = 0)) ∧ xs = []) ∨ ∃ g o c, v = .slice (some ⟨g, o, none⟩) xs.length c ∧ base ≤ g ∧ g < w.heap.size ∧ xs.length ≤ 9223372036854775807 ∧ ∀ k, k < xs.length →
    w.cell? ⟨g, o + k * 3, none⟩ = some (.int .i64 (xs.getD k Dd24.zero).kind) ∧ w.cell? ⟨g, o + k * 3 + 1, none⟩ = some (.int .i64 (xs.getD k Dd24.zero).u) ∧ w.cell? ⟨g, o + k * 3 + 2, none⟩ = some (.int .i64 (xs.getD k Dd24.zero).v)
theorem Dd24s.kept {base base' : Nat} {w w1 : World} {v : Value} {xs : List Dd24} (h : Dd24s base w v xs) (hb : ∀ g, base ≤ g → g < w.heap.size → w1.heap[g]? = w.heap[g]? ∧ base' ≤ g) (hs : w.heap.size ≤ w1.heap.size) : Dd24s base' w1 v xs := by
  rcases h with h | ⟨g, o, c, hv, h0, h1, h2, h3⟩
  · exact .inl h
  · refine .inr ⟨g, o, c, hv, (hb g h0 h1).2, Nat.lt_of_lt_of_le h1 hs, h2, fun k hk => ?_⟩
    have key : ∀ j, w1.cell? ⟨g, j, none⟩ = w.cell? ⟨g, j, none⟩ := fun j => World.cell?_of_block (a := ⟨g, j, none⟩) (hb g h0 h1).1
    simp only [key]
    exact h3 k hk
theorem Dd24s.below {base : Nat} {w w1 : World} {v : Value} {xs : List Dd24} (h : Dd24s base w v xs) (hb : Below w.heap.size w w1) : Dd24s base w1 v xs :=
  h.kept (fun g h0 h1 => ⟨hb.block g h1, h0⟩) hb.size
theorem Dd24s.grown {base : Nat} {w w1 : World} {v : Value} {xs : List Dd24} {x : Option Nat} (h : Dd24s base w v xs) (hg : w.grownBy w1 x) (hx : ∀ b, x = some b → b < base) : Dd24s base w1 v xs :=
  h.kept (fun g h0 h1 => ⟨hg.block g h1 (fun e => by have := hx g e.symm; omega), h0⟩) hg.size
theorem Dd24s.mono {base base' : Nat} {w : World} {v : Value} {xs : List Dd24} (h : Dd24s base w v xs) (hb : base' ≤ base) : Dd24s base' w v xs :=
  h.kept (fun _ h0 _ => ⟨rfl, Nat.le_trans hb h0⟩) (Nat.le_refl _)
theorem Dd24s.open_ {base : Nat} {w : World} {v : Value} {xs : List Dd24} (h : Dd24s base w v xs) : ∃ p c, v = .slice p xs.length c ∧ xs.length ≤ 9223372036854775807 ∧ ∀ k, k < xs.length → ∃ g o, p = some ⟨g, o, none⟩ ∧ base ≤ g ∧ g < w.heap.size ∧
    w.cell? ⟨g, o + k * 3, none⟩ = some (.int .i64 (xs.getD k Dd24.zero).kind) ∧ w.cell? ⟨g, o + k * 3 + 1, none⟩ = some (.int .i64 (xs.getD k Dd24.zero).u) ∧ w.cell? ⟨g, o + k * 3 + 2, none⟩ = some (.int .i64 (xs.getD k Dd24.zero).v) := by
  rcases h with ⟨⟨p, c, hv⟩, rfl⟩ | ⟨g, o, c, hv, h0, h1, h2, h3⟩
  · exact ⟨p, c, hv.1, by simp, fun k hk => absurd hk (by simp)⟩
  · exact ⟨_, c, hv, h2, fun k hk => ⟨g, o, rfl, h0, h1, h3 k hk⟩⟩
theorem Dd24s.nil {base : Nat} {w : World} : Dd24s base w (.slice none 0 0) [] := .inl ⟨⟨_, _, rfl, fun _ => rfl⟩, rfl⟩
theorem dd24_flat_len (zs : List Dd24) : (zs.flatMap Dd24.vals).length = zs.length * 3 := by
  induction zs with
  | nil => rfl
  | cons x zs ih => rw [List.flatMap_cons, List.length_append, ih]; simp [Dd24.vals]; omega
theorem dd24_flat_get : ∀ (zs : List Dd24) (k j : Nat), k < zs.length → j < 3 → (zs.flatMap Dd24.vals)[k * 3 + j]? = (Dd24.vals (zs.getD k Dd24.zero))[j]?
  | x :: zs, 0, j, _, hj => by
    rw [List.flatMap_cons, List.getElem?_append_left (by simp [Dd24.vals]; omega)]
    simp
  | x :: zs, k + 1, j, hk, hj => by
    rw [List.flatMap_cons, List.getElem?_append_right (by simp [Dd24.vals]; omega), show (k + 1) * 3 + j - (Dd24.vals x).length = k * 3 + j by simp [Dd24.vals]; omega, dd24_flat_get zs k j (by simpa using hk) hj]
    rfl
theorem dd24_flat_take (zs : List Dd24) (m : Nat) : (zs.flatMap Dd24.vals).take (m * 3) = (zs.take m).flatMap Dd24.vals := by
  induction zs generalizing m with
  | nil => simp
  | cons x zs ih =>
    cases m with
    | zero => simp
    | succ m =>
      rw [List.flatMap_cons, List.take_succ_cons, List.flatMap_cons, ← ih m, List.take_append, List.take_of_length_le (by simp [Dd24.vals]; omega)]
      congr 2
      simp [Dd24.vals]; omega
theorem dd24_vals_one (zs : List Dd24) : ∀ u ∈ zs.flatMap Dd24.vals, u.oneCell' = true := by
  intro u hu
  obtain ⟨x, _, hx⟩ := List.mem_flatMap.1 hu
  simp only [Dd24.vals, List.mem_cons, List.not_mem_nil, or_false] at hx
  rcases hx with rfl | rfl | rfl <;> rfl
/-- The slice v, which the call made itself from block B on, holds zs. -/
def OwnDd24 (B : Nat) (w : World) (v : Value) (zs : List Dd24) : Prop := w.ownsRow B 32 3 v zs.length (zs.flatMap Dd24.vals)
theorem OwnDd24.nil (B : Nat) (w : World) : OwnDd24 B w (.slice none 0 0) [] := World.ownsRow_nil _ _ _ _
theorem OwnDd24.list {B : Nat} {w : World} {v : Value} {zs : List Dd24} (h : OwnDd24 B w v zs) (hl : zs.length ≤ 9223372036854775807) : Dd24s B w v zs := by
  have h' := h
  rcases h.2 with ⟨hv, h0⟩ | ⟨g, cap, cur, hv, hB, h2, _⟩
  · exact .inl ⟨⟨_, _, hv, fun _ => rfl⟩, List.length_eq_zero_iff.1 h0⟩
  · subst hv
    have hc : ∀ k j, k < zs.length → j < 3 → w.cell? ⟨g, 0 + k * 3 + j, none⟩ = (Dd24.vals (zs.getD k Dd24.zero))[j]? := fun k j hk hj => by
      rw [Nat.zero_add, ← dd24_flat_get zs k j hk hj]
      exact World.ownsRow.cellAt h' (k * 3 + j) (by omega)
    exact .inr ⟨g, 0, cap, rfl, hB, heap_lt h2, hl, fun k hk => ⟨hc k 0 hk (by omega), hc k 1 hk (by omega), hc k 2 hk (by omega)⟩⟩
theorem OwnDd24.kept {B : Nat} {w w1 : World} {v : Value} {zs : List Dd24} (h : OwnDd24 B w v zs) {row : Option Nat} (hg : w.grownBy w1 row) (hne : v.ownBlock = none ∨ v.ownBlock ≠ row) : OwnDd24 B w1 v zs := World.ownsRow.kept h hg hne
theorem OwnDd24.below {B : Nat} {w w1 : World} {v : Value} {zs : List Dd24} (h : OwnDd24 B w v zs) (hb : Below w.heap.size w w1) : OwnDd24 B w1 v zs :=
  World.ownsRow.kept h (row := none) ⟨hb.os, hb.tape, hb.output, hb.size, fun k hk _ => hb.block k hk⟩ (by cases v.ownBlock <;> simp)
theorem OwnDd24.base {B : Nat} {w : World} {v : Value} {zs : List Dd24} (h : OwnDd24 B w v zs) : ∀ k, v.ownBlock = some k → B ≤ k ∧ k < w.heap.size := World.ownsRow.lt h
/-- The first m of it, in the same place. -/
theorem OwnDd24.cut {B : Nat} {w : World} {p : Option Addr} {n c : Nat} {zs : List Dd24} (h : OwnDd24 B w (.slice p n c) zs) {m : Nat} (hm : m ≤ zs.length) : OwnDd24 B w (.slice p m c) (zs.take m) := by
  obtain ⟨hl, h⟩ := h
  have hlen : (zs.take m).length = m := by rw [List.length_take]; omega
  refine ⟨by rw [dd24_flat_len], ?_⟩
  rw [hlen]
  rcases h with ⟨hv, h0⟩ | ⟨g, cap, cur, hv, h1, h2, h3, h4, h5, h6⟩
  · injection hv with e1 e2 e3
    subst e1 e3
    obtain rfl : m = 0 := by omega
    exact .inl ⟨rfl, rfl⟩
  · injection hv with e1 e2 e3
    subst e1 e3
    refine .inr ⟨g, c, cur, rfl, h1, h2, by omega, h4, h5, ?_⟩
    rw [← dd24_flat_take, ← h6, List.take_take]
    congr 1
    have := Nat.mul_le_mul_right 3 hm
    omega
theorem dd24_info : (Tryd.prog.info? 32).map (fun i => (i.zero, i.size, i.bytes)) = some (some (.agg #[.int .i64 0, .int .i64 0, .int .i64 0]), 3, 24) := by kernel_rfl
theorem run_append_dd24s {B base : Nat} {w : World} {v u : Value} {zs ys : List Dd24} (ty : TypeId)
    (hB : B ≤ w.heap.size) (hown : OwnDd24 B w v zs) (hys : Dd24s base w u ys) (hl : zs.length + ys.length ≤ 1000000) :
    ∃ v' w', (Builtin.append_ #[22, 22] ty #[v, u]).run Tryd.prog w = .ok v' w' ∧ OwnDd24 B w' v' (zs ++ ys) ∧ w.grownBy w' v.ownBlock ∧ (v'.ownBlock = v.ownBlock ∨ v'.ownBlock = some w.heap.size) := by
  obtain ⟨i0, hi, hz0, hz1, hz2⟩ := info_parts dd24_info
  rcases hys with ⟨⟨p, c, rfl, hpc⟩, rfl⟩ | ⟨g, o', c, rfl, _, _, _, hc⟩
  · cases p with
    | none =>
      obtain rfl := hpc rfl
      exact ⟨v, w, run_append_owned_none (P := Tryd.prog) (w := w) B 22 ty 32 i0 3 Tryd.underlying22 hi v zs.length (zs.flatMap Dd24.vals) hown, by rw [List.append_nil]; exact hown, World.grownBy.refl _ _, .inl rfl⟩
    | some ad =>
      obtain ⟨v', w', hr, h2, h3, _, h5⟩ := run_append_own_at (P := Tryd.prog) w B 22 ty 32 i0 (.agg #[.int .i64 0, .int .i64 0, .int .i64 0]) 3 24 Tryd.underlying22 hi hz0 hz1 hz2 rfl (by decide) v zs.length (zs.flatMap Dd24.vals) hown ad 0 c [] (by simp) (by simp) (by simp) (by simp only [maxLen]; omega) (by omega) hB
      refine ⟨v', w', hr, ?_, h3, h5⟩
      rw [List.append_nil]
      unfold OwnDd24
      simpa using h2
  · obtain ⟨v', w', hr, h2, h3, _, h5⟩ := run_append_own_at (P := Tryd.prog) w B 22 ty 32 i0 (.agg #[.int .i64 0, .int .i64 0, .int .i64 0]) 3 24 Tryd.underlying22 hi hz0 hz1 hz2 rfl (by decide) v zs.length (zs.flatMap Dd24.vals) hown ⟨g, o', none⟩ ys.length c (ys.flatMap Dd24.vals) (dd24_flat_len ys) (by
      intro t y hy
      have ht : t < ys.length * 3 := by rw [← dd24_flat_len ys]; exact (List.getElem?_eq_some_iff.1 hy).1
      have hk : t / 3 < ys.length := by omega
      have hr : t % 3 < 3 := Nat.mod_lt _ (by decide)
      have e : t = t / 3 * 3 + t % 3 := by omega
      have hcc := hc (t / 3) hk
      rw [e, dd24_flat_get ys _ _ hk hr] at hy
      rw [add_plain, e]
      generalize t / 3 = k at hcc hy
      generalize t % 3 = j at hr hy
      obtain ⟨c0, c1, c2⟩ := hcc
      match j, hr, hy with
      | 0, _, hy => simp [Dd24.vals] at hy; subst hy; simpa [Nat.add_assoc] using c0
      | 1, _, hy => simp [Dd24.vals] at hy; subst hy; simpa [Nat.add_assoc] using c1
      | 2, _, hy => simp [Dd24.vals] at hy; subst hy; simpa [Nat.add_assoc] using c2) (dd24_vals_one ys) (by simp only [maxLen]; omega) (by omega) hB
    refine ⟨v', w', hr, ?_, h3, h5⟩
    unfold OwnDd24
    rw [List.length_append, List.flatMap_append]
    exact h2
/-- Some are put behind a slice of the call's own. -/
theorem append_dd24s {ops : Array Oper} {rest : List Oper} {o : Oper} {a : Act} {Q : Exit → Act → World → Prop} (hgd : o.guard = none) (s x : Operand)
    (ho : o.op = .call { callee := .builtin .append, args := #[s, x], argTypes := #[22, 22] }) {B base : Nat} {w : World} {v u : Value} {zs ys : List Dd24}
    (hB : B ≤ w.heap.size) (hown : OwnDd24 B w v zs) (hs : a.eval s = v) (hys : Dd24s base w u ys) (hx : a.eval x = u) (hl : zs.length + ys.length ≤ 1000000)
    (h : ∀ v' w', OwnDd24 B w' v' (zs ++ ys) → w.grownBy w' v.ownBlock → (v'.ownBlock = v.ownBlock ∨ v'.ownBlock = some w.heap.size) → wpList Tryd.prog ops Q rest (a.put o.dst v') w') :
    wpList Tryd.prog ops Q (o :: rest) a w := by
  refine wpList_plain hgd fun K hK => ?_
  obtain ⟨v', w', hr, h2, h3, h5⟩ := run_append_dd24s o.type hB hown hys hl
  unfold Oper.wp execOp
  simp only [ho, resolve, invoke, builtin, Sem.run_bind, Sem.run_pure, Result.andThen_ok, List.map_toArray, List.map_cons, List.map_nil, hs, hx, hr]
  exact hK _ _ (h v' w' h2 h3 h5)
/-- The same, as one step of a region that draws its order. -/
theorem step_append_dd24s {ops : Array Oper} {o : Oper} {a : Act} {w : World} {K : Act → World → Prop} {Q : Exit → Act → World → Prop} {E : Prop} (hgd : o.guard = none) (s x : Operand)
    (ho : o.op = .call { callee := .builtin .append, args := #[s, x], argTypes := #[22, 22] }) {B base : Nat} {v u : Value} {zs ys : List Dd24}
    (hB : B ≤ w.heap.size) (hown : OwnDd24 B w v zs) (hs : a.eval s = v) (hys : Dd24s base w u ys) (hx : a.eval x = u) (hl : zs.length + ys.length ≤ 1000000)
    (hK : ∀ v' w', OwnDd24 B w' v' (zs ++ ys) → w.grownBy w' v.ownBlock → (v'.ownBlock = v.ownBlock ∨ v'.ownBlock = some w.heap.size) → K (a.put o.dst v') w') :
    if Region.wanted o (yielded ops a.tmps) = true then Oper.wp Tryd.prog o a w K Q else E := by
  rw [if_pos (by simp [Region.wanted, hgd])]
  obtain ⟨v', w', hr, h2, h3, h5⟩ := run_append_dd24s o.type hB hown hys hl
  unfold Oper.wp
  simp [execOp, ho, resolve, invoke, builtin, hs, hx, hr, Result.andThen]
  exact hK v' w' h2 h3 h5
theorem OwnDd24.lay {B : Nat} {w X : World} {v : Value} {zs : List Dd24} (h : OwnDd24 B w v zs) (hx : X.heap = w.heap) (o : Obj) : OwnDd24 B (X.alloc o) v zs := by
  have h1 : OwnDd24 B X v zs := by
    unfold OwnDd24 World.ownsRow at *
    rw [hx]
    exact h
  exact World.ownsRow.alloc h1 o
theorem ownDd24_empty {B : Nat} {W : World} {g : Nat} (hB : B ≤ g) (h : W.heap[g]? = some (.cells #[] 32)) : OwnDd24 B W (.slice (some ⟨g, 0, none⟩) 0 0) [] :=
  ⟨rfl, .inr ⟨g, 0, #[], rfl, hB, h, Nat.le_refl _, by simp [maxLen], rfl, rfl⟩⟩
/-- One that is typed out. -/
theorem dd24_at {X : World} {g : Nat} (c : Dd24) (h : X.heap[g]? = some (.cells #[.int .i64 c.kind, .int .i64 c.u, .int .i64 c.v] 32)) : Dd24s 0 X (.slice (some ⟨g, 0, none⟩) 1 1) [c] := by
  refine .inr ⟨g, 0, 1, rfl, Nat.zero_le _, heap_lt h, by simp, fun k hk => ?_⟩
  have : k = 0 := by simpa using hk
  subst this
  simp only [World.cell?, h]
  simp
theorem dd24_lit (c : Dd24) (X : World) : Dd24s 0 (X.alloc (.cells #[.int .i64 c.kind, .int .i64 c.u, .int .i64 c.v] 32)) (.slice (some ⟨X.heap.size, 0, none⟩) 1 1) [c] := dd24_at c (heap_alloc_at _ _ _ rfl)

theorem dd24_flat : flatB Tryd.prog 8 32 = true := by kernel_rfl
theorem dd24_cells : Tryd.prog.cellsOf 32 = 3 := by kernel_rfl
section
variable {H : Type} {enc : TypeId × Value → H} {w : World}
set_option maxRecDepth 100000 in
theorem open_dd24s {r : Reach} {b0 : Nat} {v : Value} {d : DataW H} {p : List MemPlace} (hv : Value.okWide Tryd.prog w r b0 22 v) (h : DataW.Trod enc Tryd.prog w 0 (fun _ => true) true 22 v d p) : ∃ xs, (∃ p c, v = .slice p xs.length c ∧ xs.length ≤ c) ∧ Dd24s 0 w v xs ∧ ∀ x ∈ xs, Dd24.ok x := by
  obtain ⟨q, len, cap, G, rfl, hqc, hlc, hl, hG, hc⟩ := open_flat Tryd.underlying22 dd24_flat (by rw [dd24_cells]; decide) hv h
  rw [dd24_cells] at hc
  have hlen : ((List.range len).map fun k => (⟨G k 0, G k 1, G k 2⟩ : Dd24)).length = len := by simp
  refine ⟨(List.range len).map fun k => ⟨G k 0, G k 1, G k 2⟩, ⟨q, cap, by rw [hlen], by rw [hlen]; exact hlc⟩, ?_, fun x hx => ?_⟩
  · by_cases h0 : len = 0
    · subst h0
      exact .inl ⟨⟨_, _, rfl, hqc⟩, rfl⟩
    · obtain ⟨g, o, hq, hg, _⟩ := hc 0 (by omega)
      subst hq
      refine .inr ⟨g, o, cap, by rw [hlen], Nat.zero_le _, hg, by rw [hlen]; exact hl, fun k hk => ?_⟩
      rw [hlen] at hk
      obtain ⟨g', o', hq, _, hcc⟩ := hc k hk
      simp only [Option.some.injEq, Addr.mk.injEq, and_true] at hq
      obtain ⟨rfl, rfl⟩ := hq
      have hget : ((List.range len).map fun k => (⟨G k 0, G k 1, G k 2⟩ : Dd24)).getD k Dd24.zero = ⟨G k 0, G k 1, G k 2⟩ := by simp [List.getD_eq_getElem?_getD, hk]
      rw [hget]
      exact ⟨hcc 0 (by omega), hcc 1 (by omega), hcc 2 (by omega)⟩
  · obtain ⟨k, _, rfl⟩ := List.mem_map.1 hx
    exact ⟨hG k 0, hG k 1, hG k 2⟩
set_option maxRecDepth 100000 in
theorem open_dd24 {r : Reach} {b0 : Nat} {v : Value} {d : DataW H} {p : List MemPlace} {base : Nat} {spare : Nat → Bool} {held : Bool} (hv : Value.okWide Tryd.prog w r b0 32 v) (h : DataW.Trod enc Tryd.prog w base spare held 32 v d p) : ∃ x : Dd24, Dd24.ok x ∧ v = .agg #[.int .i64 x.kind, .int .i64 x.u, .int .i64 x.v] := by
  obtain ⟨G, hG, hv'⟩ := open_flat1 Tryd.underlying32 dd24_flat hv h
  rw [dd24_cells] at hv'
  exact ⟨⟨G 0, G 1, G 2⟩, ⟨hG 0, hG 1, hG 2⟩, hv'⟩
end
end Go.Proofs.YtakgepdlninnhaaDoor.F
