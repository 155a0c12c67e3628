/-
  MapStays: what the maps made so far, and their lists, are. Not a statement of the seat.
-/
import Derived.Test.YtpmimngngehmlaaRowB
namespace Go.Proofs.Ytpmimngngehmlaa.F
open Go.ChangeShapes Go.WideShapes Go.ChangeAt Go.RowKit Base
/-- A tree, its number, its list. -/
abbrev Ent := Tre × Int × Value
def rows4 (pv : Value) (l : List Ent) : List Value := l.flatMap fun e => [pv, .int .i64 e.2.1]
def rows5 (l : List Ent) : List Value := l.flatMap fun e => [e.2.2]
theorem rows4_snoc (pv : Value) (l : List Ent) (t : Tre) (r : Int) (v : Value) : rows4 pv (l ++ [(t, r, v)]) = rows4 pv l ++ [pv, .int .i64 r] := by simp [rows4]
theorem rows5_snoc (l : List Ent) (t : Tre) (r : Int) (v : Value) : rows5 (l ++ [(t, r, v)]) = rows5 l ++ [v] := by simp [rows5]
theorem ent_at (pv : Value) : ∀ (l : List Ent) (i : Nat), i < l.length → ∃ t r v, (t, r, v) ∈ l ∧ (rows4 pv l)[i * 2]? = some pv ∧ (rows4 pv l)[i * 2 + 1]? = some (.int .i64 r) ∧ (rows5 l)[i]? = some v
  | (t, r, v) :: l, 0, _ => ⟨t, r, v, List.mem_cons_self .., rfl, rfl, rfl⟩
  | e :: l, i + 1, h => by
    obtain ⟨t, r, v, h1, h2, h3, h4⟩ := ent_at pv l i (by simpa using h)
    refine ⟨t, r, v, List.mem_cons_of_mem _ h1, ?_, ?_, ?_⟩
    · rw [show (i + 1) * 2 = i * 2 + 1 + 1 by omega]; exact h2
    · rw [show (i + 1) * 2 + 1 = i * 2 + 1 + 1 + 1 by omega]; exact h3
    · exact h4
/-- One of them. -/
def EI (zs : List Cel) (n : Nat) (es : List (Nat × Obj)) (t : Tre) (r : Int) (v : Value) : Prop := Tr zs t r ∧ SortL t.list ∧ t.bal ∧ t.size ≤ n ∧ LV es v t.list
/-- All of them. -/
def EA (pv : Value) (zs : List Cel) (n : Nat) (p4 p5 : Nat × Obj) (v4 v5 : Value) (es : List (Nat × Obj)) (l : List Ent) : Prop :=
  l.length = n ∧ RowB 27 2 p4 v4 n (rows4 pv l) ∧ RowB 29 1 p5 v5 n (rows5 l) ∧ (∀ t r v, (t, r, v) ∈ l → EI zs n es t r v) ∧ (∀ q ∈ p5 :: es, q.1 ≠ p4.1) ∧ (∀ q ∈ es, q.1 ≠ p5.1) ∧ zs.length ≤ 80 * n
theorem EA.first (pv : Value) (g4 g5 : Nat) (h : g5 ≠ g4) : EA pv [] 1 (g4, .cells #[pv, .int .i64 0] 27) (g5, .cells #[.slice none 0 0] 29) (.slice (some ⟨g4, 0, none⟩) 1 1) (.slice (some ⟨g5, 0, none⟩) 1 1) [] [(.nil, 0, .slice none 0 0)] := by
  refine ⟨rfl, RowB.lit (xs := [pv, .int .i64 0]) rfl, RowB.lit (xs := [.slice none 0 0]) rfl, fun t r v hm => ?_, fun q hq => ?_, (fun q hq => by cases hq), by simp⟩
  · rw [List.mem_singleton] at hm
    injection hm with e1 e2
    injection e2 with e2 e3
    subst e1 e2 e3
    exact ⟨rfl, List.Pairwise.nil, trivial, Nat.zero_le _, .inl ⟨rfl, _, _, rfl, fun _ => rfl⟩⟩
  · rw [List.mem_singleton] at hq
    subst hq
    exact h
/-- The step: one more. -/
theorem EA.next {pv : Value} {zs zs' : List Cel} {n : Nat} {p4 p5 p4' p5' : Nat × Obj} {v4 v5 v4' v5' : Value} {es nb : List (Nat × Obj)} {l : List Ent} {t : Tre} {r : Int} {v : Value} (h : EA pv zs n p4 p5 v4 v5 es l) (he : ∃ new, zs' = zs ++ new) (hz : zs'.length ≤ 80 * (n + 1))
    (h1 : Tr zs' t r ∧ SortL t.list ∧ t.bal ∧ t.size ≤ n + 1) (h2 : LV nb v t.list) (r4 : RowB 27 2 p4' v4' (n + 1) (rows4 pv l ++ [pv, .int .i64 r])) (r5 : RowB 29 1 p5' v5' (n + 1) (rows5 l ++ [v])) (d4 : ∀ q ∈ p5' :: (nb ++ es), q.1 ≠ p4'.1) (d5 : ∀ q ∈ nb ++ es, q.1 ≠ p5'.1) :
    EA pv zs' (n + 1) p4' p5' v4' v5' (nb ++ es) (l ++ [(t, r, v)]) := by
  obtain ⟨k1, k2, k3, k4, k5, k6, k7⟩ := h
  refine ⟨by simp [k1], by rw [rows4_snoc]; exact r4, by rw [rows5_snoc]; exact r5, fun t' r' v' hm => ?_, d4, d5, hz⟩
  rcases List.mem_append.1 hm with hm | hm
  · obtain ⟨a1, a2, a3, a4, a5⟩ := k4 t' r' v' hm
    obtain ⟨new, rfl⟩ := he
    exact ⟨a1.append _, a2, a3, by omega, a5.mono fun p hp => List.mem_append_right _ hp⟩
  · rw [List.mem_singleton] at hm
    injection hm with e1 e2
    injection e2 with e2 e3
    subst e1 e2 e3
    exact ⟨h1.1, h1.2.1, h1.2.2.1, h1.2.2.2, h2.mono fun p hp => List.mem_append_left _ hp⟩
set_option maxRecDepth 100000 in
theorem map_info : (Try.prog.info? 27).map (fun i => (i.zero, i.size, i.bytes)) = some (some (.agg #[.pointer none, .int .i64 0]), 2, 16) := by kernel_rfl
set_option maxRecDepth 100000 in
theorem lst_info : (Try.prog.info? 29).map (fun i => (i.zero, i.size, i.bytes)) = some (some (.slice none 0 0), 1, 24) := by kernel_rfl
theorem append_map {ops : Array Oper} {rest : List Oper} {oo : Oper} {a : Act} {Q : Exit → Act → World → Prop} (hgd : oo.guard = none) (s x : Operand) (ho : oo.op = .call { callee := .builtin .append, args := #[s, x], argTypes := #[40, 40] })
    {w : World} {v : Value} {p : Nat × Obj} {n : Nat} {xs : List Value} {g' c : Nat} {pv : Option Addr} {r : Int} (h : RowB 27 2 p v n xs) (hp : w.heap[p.1]? = some p.2) (hs : a.eval s = v) (hx : a.eval x = .slice (some ⟨g', 0, none⟩) 1 c) (hg : w.heap[g']? = some (.cells #[.pointer pv, .int .i64 r] 27)) (hl : n ≤ 100000)
    (hK : ∀ c' w' g'' ob', RowB 27 2 (g'', ob') (.slice (some ⟨g'', 0, none⟩) (n + 1) c') (n + 1) (xs ++ [.pointer pv, .int .i64 r]) → w'.heap[g'']? = some ob' → w.grownBy w' (some p.1) → (g'' = p.1 ∨ g'' = w.heap.size) → wpList Try.prog ops Q rest (a.put oo.dst (.slice (some ⟨g'', 0, none⟩) (n + 1) c')) w') :
    wpList Try.prog ops Q (oo :: rest) a w := by
  obtain ⟨i0, hi, hz0, hz1, hz2⟩ := info_parts map_info
  exact append_row hgd s x (i0 := i0) ho Try.underlying40 hi hz0 hz1 hz2 rfl (by omega) (by omega) (ys := [.pointer pv, .int .i64 r]) h hp hs hx hg rfl (by simp [Value.oneCell']) hl fun v' w' p' hr hp hg he => by
    obtain ⟨g'', c', e, hv, _⟩ := hr.open_
    obtain ⟨g3, ob'⟩ := p'
    simp only at e
    subst e
    subst hv
    exact hK c' w' g3 ob' hr hp hg he
theorem append_lst {ops : Array Oper} {rest : List Oper} {oo : Oper} {a : Act} {Q : Exit → Act → World → Prop} (hgd : oo.guard = none) (s x : Operand) (ho : oo.op = .call { callee := .builtin .append, args := #[s, x], argTypes := #[41, 41] })
    {w : World} {v : Value} {p : Nat × Obj} {n : Nat} {xs : List Value} {g' c : Nat} {pa : Option Addr} {pn pc : Nat} (h : RowB 29 1 p v n xs) (hp : w.heap[p.1]? = some p.2) (hs : a.eval s = v) (hx : a.eval x = .slice (some ⟨g', 0, none⟩) 1 c) (hg : w.heap[g']? = some (.cells #[.slice pa pn pc] 29)) (hl : n ≤ 100000)
    (hK : ∀ c' w' g'' ob', RowB 29 1 (g'', ob') (.slice (some ⟨g'', 0, none⟩) (n + 1) c') (n + 1) (xs ++ [.slice pa pn pc]) → w'.heap[g'']? = some ob' → w.grownBy w' (some p.1) → (g'' = p.1 ∨ g'' = w.heap.size) → wpList Try.prog ops Q rest (a.put oo.dst (.slice (some ⟨g'', 0, none⟩) (n + 1) c')) w') :
    wpList Try.prog ops Q (oo :: rest) a w := by
  obtain ⟨i0, hi, hz0, hz1, hz2⟩ := info_parts lst_info
  exact append_row hgd s x (i0 := i0) ho Try.underlying41 hi hz0 hz1 hz2 rfl (by omega) (by omega) (ys := [.slice pa pn pc]) h hp hs hx hg rfl (by simp [Value.oneCell']) hl fun v' w' p' hr hp hg he => by
    obtain ⟨g'', c', e, hv, _⟩ := hr.open_
    obtain ⟨g3, ob'⟩ := p'
    simp only at e
    subst e
    subst hv
    exact hK c' w' g3 ob' hr hp hg he
/-- A tree that Put, Del leave: there was room. -/
theorem put_room {n : Nat} {zs zs2 : List Cel} {t : Tre} {rt2 why key val : Int} (hn : n ≤ 61) (ht : SortL t.list ∧ t.bal ∧ t.size ≤ n) (hz : zs.length ≤ 80 * n) (hM : MRes (PutP zs (3 * t.high + 1) (Tre.ins key val t)) (65536 < zs.length + (3 * t.high + 1)) zs zs2 rt2 why) :
    why = 0 ∧ (∃ new, zs2 = zs ++ new) ∧ zs2.length ≤ 80 * n + 40 ∧ Tr zs2 (Tre.ins key val t) rt2 ∧ SortL (Tre.ins key val t).list ∧ (Tre.ins key val t).bal ∧ (Tre.ins key val t).size ≤ n + 1 := by
  obtain ⟨h2, h3, h4⟩ := ht
  have h11 : t.high ≤ 12 := high_le h3 (n := 61) (by omega) (by decide)
  have hi := ins_size1 key val t
  rcases hM with ⟨h0, ⟨new, he, hm⟩, ht⟩ | ⟨_, _, _, hz⟩
  · refine ⟨h0, ⟨new, he⟩, ?_, ht, (link key val t h2).2.1, (Tre.ins_bal key val h3).1, by omega⟩
    rw [he, List.length_append]; omega
  · omega
theorem del_size1 (key : Int) (t : Tre) (h : SortL t.list) (hk : t.has key = true) : (Tre.del key t).size ≤ t.size := by
  have := ((link key 0 t h).2.2.2.2.2 hk).1
  rw [← Tre.list_len, ← Tre.list_len, this]
  exact List.length_filter_le _ _
theorem del_room {n : Nat} {zs zs1 zs2 : List Cel} {t : Tre} {rt2 why key : Int} (hn : n ≤ 61) (ht : SortL t.list ∧ t.bal ∧ t.size ≤ n) (hk : t.has key = true) (he0 : ∃ new, zs1 = zs ++ new) (hz : zs1.length ≤ 80 * n + 40) (hM : MRes (PutP zs1 (3 * t.high) (Tre.del key t)) (65536 < zs1.length + 3 * t.high) zs1 zs2 rt2 why) :
    why = 0 ∧ (∃ new, zs2 = zs ++ new) ∧ zs2.length ≤ 80 * (n + 1) ∧ Tr zs2 (Tre.del key t) rt2 ∧ SortL (Tre.del key t).list ∧ (Tre.del key t).bal ∧ (Tre.del key t).size ≤ n + 1 := by
  obtain ⟨h2, h3, h4⟩ := ht
  have h11 : t.high ≤ 12 := high_le h3 (n := 61) (by omega) (by decide)
  have hd := del_size1 key t h2 hk
  rcases hM with ⟨h0, ⟨new, he, hm⟩, ht⟩ | ⟨_, _, _, hz⟩
  · obtain ⟨new0, he0⟩ := he0
    refine ⟨h0, ⟨new0 ++ new, by rw [he, he0, List.append_assoc]⟩, ?_, ht, ((link key 0 t h2).2.2.2.2.2 hk).2, (Tre.del_bal key h3).1, by omega⟩
    rw [he, List.length_append]; omega
  · omega
end Go.Proofs.Ytpmimngngehmlaa.F
