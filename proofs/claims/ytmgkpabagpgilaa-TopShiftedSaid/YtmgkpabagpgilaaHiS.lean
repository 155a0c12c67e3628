/-
  Transactions, orders, histories in memory: how their slices hold them, and how those that come in are read. Not a statement of the seat.
-/
import Derived.Test.YtmgkpabagpgilaaFOpr
import Derived.Test.YtmgkpabagpgilaaLst
import Derived.Test.YtmgkpabagpgilaaHead2
namespace Go.Proofs.Ytmgkpabagpgilaa.Hi
open Go.ChangeShapes Go.WideShapes Go.ChangeAt Go.RowKit Base F
/-- A transaction. -/
structure Txn where
  id : Int
  dn : Bool
  ops : List Opr
def Txn.zero : Txn := ⟨0, false, []⟩
/-- An order. -/
structure Ordr where
  key : Int
  txs : List Int
def Ordr.zero : Ordr := ⟨0, []⟩
structure Hist where
  txs : List Txn
  ords : List Ordr
def i64 (x : Int) : Prop := -9223372036854775808 ≤ x ∧ x ≤ 9223372036854775807
def Txn.ok (t : Txn) : Prop := i64 t.id ∧ ∀ x ∈ t.ops, Opr.ok x
def Ordr.ok (o : Ordr) : Prop := i64 o.key ∧ ∀ x ∈ o.txs, i64 x
/-- The slice s is in the form of l, and holds it. -/
def OpsV (w : World) (s : Value) (l : List Opr) : Prop := (∃ p c, s = .slice p l.length c ∧ l.length ≤ c) ∧ Oprs 0 w s l
def IdsV (w : World) (s : Value) (l : List Int) : Prop := (∃ p c, s = .slice p l.length c ∧ l.length ≤ c) ∧ Lst.Ints 0 w s l
/-- The slice v holds the transactions xs. -/
def Txs (w : World) (v : Value) (xs : List Txn) : Prop :=
  (∃ p c, v = .slice p xs.length c ∧ xs.length ≤ c ∧ (p = none → c = 0) ∧ xs.length ≤ 9223372036854775807) ∧ ∀ k, k < xs.length → ∃ g o c, v = .slice (some ⟨g, o, none⟩) xs.length c ∧ g < w.heap.size ∧
    w.cell? ⟨g, o + k * 3, none⟩ = some (.int .i64 (xs.getD k Txn.zero).id) ∧ w.cell? ⟨g, o + k * 3 + 1, none⟩ = some (.bool (xs.getD k Txn.zero).dn) ∧ ∃ s, w.cell? ⟨g, o + k * 3 + 2, none⟩ = some s ∧ OpsV w s (xs.getD k Txn.zero).ops
/-- The slice v holds the orders xs. -/
def Ords (w : World) (v : Value) (xs : List Ordr) : Prop :=
  (∃ p c, v = .slice p xs.length c ∧ xs.length ≤ c ∧ (p = none → c = 0) ∧ xs.length ≤ 9223372036854775807) ∧ ∀ k, k < xs.length → ∃ g o c, v = .slice (some ⟨g, o, none⟩) xs.length c ∧ g < w.heap.size ∧
    w.cell? ⟨g, o + k * 2, none⟩ = some (.int .i64 (xs.getD k Ordr.zero).key) ∧ ∃ s, w.cell? ⟨g, o + k * 2 + 1, none⟩ = some s ∧ IdsV w s (xs.getD k Ordr.zero).txs
def HistV (w : World) (v u : Value) (h : Hist) : Prop := Txs w v h.txs ∧ Ords w u h.ords
section
variable {w w' : World}
theorem OpsV.below {s : Value} {l : List Opr} (h : OpsV w s l) (hb : Below w.heap.size w w') : OpsV w' s l := ⟨h.1, h.2.kept (fun g _ hg => ⟨hb.block g hg, Nat.zero_le _⟩) hb.size⟩
theorem IdsV.below {s : Value} {l : List Int} (h : IdsV w s l) (hb : Below w.heap.size w w') : IdsV w' s l := ⟨h.1, h.2.below hb⟩
theorem Txs.below {v : Value} {xs : List Txn} (h : Txs w v xs) (hb : Below w.heap.size w w') : Txs w' v xs := by
  refine ⟨h.1, fun k hk => ?_⟩
  obtain ⟨g, o, c, hv, hg, h0, h1, s, h2, h3⟩ := h.2 k hk
  have key : ∀ j, w'.cell? ⟨g, j, none⟩ = w.cell? ⟨g, j, none⟩ := fun j => World.cell?_of_block (a := ⟨g, j, none⟩) (hb.block g hg)
  exact ⟨g, o, c, hv, Nat.lt_of_lt_of_le hg hb.size, (key _).trans h0, (key _).trans h1, s, (key _).trans h2, h3.below hb⟩
theorem Ords.below {v : Value} {xs : List Ordr} (h : Ords w v xs) (hb : Below w.heap.size w w') : Ords w' v xs := by
  refine ⟨h.1, fun k hk => ?_⟩
  obtain ⟨g, o, c, hv, hg, h0, s, h2, h3⟩ := h.2 k hk
  have key : ∀ j, w'.cell? ⟨g, j, none⟩ = w.cell? ⟨g, j, none⟩ := fun j => World.cell?_of_block (a := ⟨g, j, none⟩) (hb.block g hg)
  exact ⟨g, o, c, hv, Nat.lt_of_lt_of_le hg hb.size, (key _).trans h0, s, (key _).trans h2, h3.below hb⟩
theorem HistV.below {v u : Value} {h : Hist} (hh : HistV w v u h) (hb : Below w.heap.size w w') : HistV w' v u h := ⟨hh.1.below hb, hh.2.below hb⟩
end
section
variable {H : Type} {enc : TypeId × Value → H} {w : World}
set_option maxRecDepth 100000 in
theorem open_txs_cells {n : Nat} {u : Value} {y : DataW H × List MemPlace} (h : DataW.trod enc Try.prog w 0 (fun _ => true) true n 22 [u] = some y) : ∃ xs, Txs w u xs ∧ ∀ x ∈ xs, Txn.ok x := by
  obtain ⟨q, len, cap, rfl, hqc, hlc, hl, hc⟩ := open_structs2 Try.underlying22 Try.underlying40 (by kernel_rfl) (by kernel_rfl) (by decide) h
  have hx : ∀ k, ∃ x : Txn, Txn.ok x ∧ (k < len → ∃ g o, q = some ⟨g, o, none⟩ ∧ g < w.heap.size ∧ w.cell? ⟨g, o + k * 3, none⟩ = some (.int .i64 x.id) ∧ w.cell? ⟨g, o + k * 3 + 1, none⟩ = some (.bool x.dn) ∧ ∃ s, w.cell? ⟨g, o + k * 3 + 2, none⟩ = some s ∧ OpsV w s x.ops) := fun k => by
    by_cases hk : k < len
    · obtain ⟨g, o, ha, hg, hcc⟩ := hc k hk
      obtain ⟨u0, y0, n0, hc0, ht0⟩ := hcc 0 _ rfl
      obtain ⟨z0, hz0, _, hb0⟩ := DataW.trod_int Try.underlying3 ht0
      obtain rfl := (List.cons.inj hz0).1
      obtain ⟨u1, y1, n1, hc1, ht1⟩ := hcc 1 _ rfl
      obtain ⟨z1, hz1, _⟩ := DataW.trod_bool Try.underlying4 ht1
      obtain rfl := (List.cons.inj hz1).1
      obtain ⟨u2, y2, n2, hc2, ht2⟩ := hcc 2 _ rfl
      obtain ⟨l, hf, h3, h4⟩ := open_opr_cells (u := u2) ht2
      exact ⟨⟨z0, z1, l⟩, ⟨bounds_i64 hb0, h4⟩, fun _ => ⟨g, o, ha, hg, hc0, hc1, u2, hc2, hf, h3⟩⟩
    · exact ⟨Txn.zero, ⟨by unfold i64 Txn.zero; simp, fun x hx => by cases hx⟩, fun h => absurd h hk⟩
  obtain ⟨f, hf⟩ := Classical.axiomOfChoice hx
  have hlen : ((List.range len).map f).length = len := by simp
  refine ⟨(List.range len).map f, ⟨⟨q, cap, by rw [hlen], by rw [hlen]; exact hlc, hqc, by rw [hlen]; exact hl⟩, fun k hk => ?_⟩, fun x hx => ?_⟩
  · rw [hlen] at hk
    obtain ⟨g, o, hq, hg, hcc⟩ := (hf k).2 hk
    have hget : ((List.range len).map f).getD k Txn.zero = f k := by simp [List.getD_eq_getElem?_getD, hk]
    rw [hget, hlen]
    exact ⟨g, o, cap, by rw [hq], hg, hcc⟩
  · obtain ⟨k, _, rfl⟩ := List.mem_map.1 hx
    exact (hf k).1
set_option maxRecDepth 100000 in
theorem open_ints_cells {n : Nat} {u : Value} {y : DataW H × List MemPlace} (h : DataW.trod enc Try.prog w 0 (fun _ => true) true n 41 [u] = some y) : ∃ zs, (∃ p c, u = .slice p zs.length c ∧ zs.length ≤ c) ∧ Lst.Ints 0 w u zs ∧ ∀ x ∈ zs, i64 x := by
  rcases open_ints Try.underlying41 Try.underlying3 Lst.cellsInt h with ⟨hcs, _⟩ | ⟨a, len', cap', zs, hcs, _, hl, hm, hz, _, hcell, hwf⟩
  · obtain rfl := (List.cons.inj hcs).1
    exact ⟨[], ⟨none, 0, rfl, Nat.le_refl _⟩, .inl ⟨⟨none, 0, rfl⟩, rfl⟩, fun x hx => by cases hx⟩
  · obtain rfl := (List.cons.inj hcs).1
    simp only [if_true] at hz
    by_cases h0 : len' = 0
    · subst h0
      exact ⟨[], ⟨_, _, rfl, by simp⟩, .inl ⟨⟨_, _, rfl⟩, rfl⟩, fun x hx => by cases hx⟩
    · obtain ⟨b, off, spot⟩ := a
      have hspot : spot = none := by simpa [Addr.add] using World.cell?_spot (hcell 0 (by omega))
      subst hspot
      have cj : ∀ j, j < zs.length → w.cell? ⟨b, off + j, none⟩ = some (.int .i64 (zs.getD j 0)) := fun j hj => by rw [← add_plain]; exact hcell j hj
      have hlt : b < w.heap.size := by
        rcases Nat.lt_or_ge b w.heap.size with h1 | h1
        · exact h1
        · have := cj 0 (by omega)
          simp [World.cell?, Array.getElem?_eq_none h1] at this
      have hlen : (zs.take len').length = len' := by rw [List.length_take]; omega
      refine ⟨zs.take len', ⟨_, _, by rw [hlen], by rw [hlen]; omega⟩, .inr ⟨b, off, cap', by rw [hlen], Nat.zero_le _, hlt, by rw [hlen]; simp only [maxLen] at hm; omega, fun k hk => ?_⟩, fun x hx => bounds_i64 (hwf x (List.mem_of_mem_take hx))⟩
      rw [hlen] at hk
      rw [cj k (by omega)]
      simp [List.getD_eq_getElem?_getD, hk]
set_option maxRecDepth 100000 in
theorem open_ords_cells {n : Nat} {u : Value} {y : DataW H × List MemPlace} (h : DataW.trod enc Try.prog w 0 (fun _ => true) true n 23 [u] = some y) : ∃ xs, Ords w u xs ∧ ∀ x ∈ xs, Ordr.ok x := by
  obtain ⟨q, len, cap, rfl, hqc, hlc, hl, hc⟩ := open_structs2 Try.underlying23 Try.underlying43 (by kernel_rfl) (by kernel_rfl) (by decide) h
  have hx : ∀ k, ∃ x : Ordr, Ordr.ok x ∧ (k < len → ∃ g o, q = some ⟨g, o, none⟩ ∧ g < w.heap.size ∧ w.cell? ⟨g, o + k * 2, none⟩ = some (.int .i64 x.key) ∧ ∃ s, w.cell? ⟨g, o + k * 2 + 1, none⟩ = some s ∧ IdsV w s x.txs) := fun k => by
    by_cases hk : k < len
    · obtain ⟨g, o, ha, hg, hcc⟩ := hc k hk
      obtain ⟨u0, y0, n0, hc0, ht0⟩ := hcc 0 _ rfl
      obtain ⟨z0, hz0, _, hb0⟩ := DataW.trod_int Try.underlying3 ht0
      obtain rfl := (List.cons.inj hz0).1
      obtain ⟨u1, y1, n1, hc1, ht1⟩ := hcc 1 _ rfl
      obtain ⟨l, hf, h3, h4⟩ := open_ints_cells (u := u1) ht1
      exact ⟨⟨z0, l⟩, ⟨bounds_i64 hb0, h4⟩, fun _ => ⟨g, o, ha, hg, hc0, u1, hc1, hf, h3⟩⟩
    · exact ⟨Ordr.zero, ⟨by unfold i64 Ordr.zero; simp, fun x hx => by cases hx⟩, fun h => absurd h hk⟩
  obtain ⟨f, hf⟩ := Classical.axiomOfChoice hx
  have hlen : ((List.range len).map f).length = len := by simp
  refine ⟨(List.range len).map f, ⟨⟨q, cap, by rw [hlen], by rw [hlen]; exact hlc, hqc, by rw [hlen]; exact hl⟩, fun k hk => ?_⟩, fun x hx => ?_⟩
  · rw [hlen] at hk
    obtain ⟨g, o, hq, hg, hcc⟩ := (hf k).2 hk
    have hget : ((List.range len).map f).getD k Ordr.zero = f k := by simp [List.getD_eq_getElem?_getD, hk]
    rw [hget, hlen]
    exact ⟨g, o, cap, by rw [hq], hg, hcc⟩
  · obtain ⟨k, _, rfl⟩ := List.mem_map.1 hx
    exact (hf k).1
set_option maxRecDepth 100000 in
theorem open_hist {r : Reach} {b0 : Nat} {v : Value} {d : DataW H} {p : List MemPlace} (hv : Value.okWide Try.prog w r b0 25 v) (h : DataW.Trod enc Try.prog w 0 (fun _ => true) true 25 v d p) : ∃ (x y : Value) (q : Hist), v = .agg #[x, y] ∧ HistV w x y q ∧ (∀ t ∈ q.txs, Txn.ok t) ∧ ∀ o ∈ q.ords, Ordr.ok o := by
  obtain ⟨cs, rfl, hsz⟩ := okWide_struct Try.underlying25 hv
  obtain ⟨fuel, hfu⟩ := h
  obtain ⟨xs, n', _, _, hcl, hxl, hg⟩ := DataW.trod_struct Try.underlying25 hfu
  have hsz' : cs.size = 2 := hsz
  have hxl' : xs.length = 2 := hxl
  obtain ⟨l⟩ := cs
  obtain ⟨u0, u1, rfl⟩ : ∃ u0 u1, l = [u0, u1] := by
    match l, hsz' with
    | [a0, a1], _ => exact ⟨a0, a1, rfl⟩
  have h0 := hg 0 _ rfl
  rw [List.getElem?_eq_getElem (by omega)] at h0
  obtain ⟨l0, h3, h4⟩ := open_txs_cells (u := u0) h0
  have h1 := hg 1 _ rfl
  rw [List.getElem?_eq_getElem (by omega)] at h1
  obtain ⟨l1, h5, h6⟩ := open_ords_cells (u := u1) h1
  exact ⟨u0, u1, ⟨l0, l1⟩, rfl, ⟨h3, h5⟩, h4, h6⟩
end
end Go.Proofs.Ytmgkpabagpgilaa.Hi
