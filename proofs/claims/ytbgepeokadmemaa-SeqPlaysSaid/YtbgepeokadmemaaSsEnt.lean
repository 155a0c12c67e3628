/-
  SeqStays: what the sequences made so far, and their lists, are. Not a statement of the seat.
-/
import Derived.Test.YtbgepeokadmemaaPsLv0
import Derived.Test.YtbgepeokadmemaaHead1
import Derived.Test.YtbgepeokadmemaaHead4
namespace Go.Proofs.Ytbgepeokadmemaa.Q
open Go.ChangeShapes Go.WideShapes Go.ChangeAt Go.RowKit Base F
/-- Which place is picked. -/
def pickN (i : Int) (n : Nat) : Nat := if i.tmod (n : Int) < 0 then (i.tmod (n : Int) + (n : Int)).toNat else (i.tmod (n : Int)).toNat
theorem pickN_lt (i : Int) (n : Nat) (hn : 0 < n) : pickN i n < n := by
  have h1 : -(n : Int) < i.tmod (n : Int) ∧ i.tmod (n : Int) < (n : Int) := ⟨Int.lt_tmod_of_pos _ (by omega), Int.tmod_lt_of_pos _ (by omega)⟩
  unfold pickN
  split <;> omega
set_option maxRecDepth 100000 in
theorem pspick (i : Int) (n : Nat) (w : World) (hn : 0 < n) (hb : n ≤ 1000000) : Calls Try.prog 8 #[.int .i64 i, .int .i64 (n : Int)] w fun e w' => e = .returned (.int .i64 (pickN i n : Nat)) ∧ w = w' := by
  have hn0 : ((n : Int) == 0) = false := by rw [beq_eq_false_iff_ne]; omega
  have h1 : -(n : Int) < i.tmod (n : Int) ∧ i.tmod (n : Int) < (n : Int) := ⟨Int.lt_tmod_of_pos _ (by omega), Int.tmod_lt_of_pos _ (by omega)⟩
  have hw : IntKind.i64.wrap (i.tmod (n : Int)) = i.tmod (n : Int) := IntWalk.i64_in _ (by omega)
  have hp : (0 ≤ i.tmod (n : Int) → ((pickN i n : Nat) : Int) = i.tmod (n : Int)) ∧ (i.tmod (n : Int) < 0 → ((pickN i n : Nat) : Int) = i.tmod (n : Int) + (n : Int)) := by
    unfold pickN
    constructor
    · intro h; rw [if_neg (by omega)]; omega
    · intro h; rw [if_pos h]; omega
  have HP := Lib.hid hp
  clear hp
  generalize ((pickN i n : Nat) : Int) = r at HP ⊢
  go_enter Try.func8, Try.ntmps8
  go_wp2
  · go_ret
    exact ⟨ret_int (HP.out.2 (by omega)).symm, rfl⟩
  · go_ret
    exact ⟨ret_int (HP.out.1 (by omega)).symm, rfl⟩
theorem pspick_b (i : Int) (n : Nat) (w : World) (hn : 0 < n) (hb : n ≤ 1000000) : Calls Try.prog 8 #[.int .i64 i, .int .i64 (n : Int)] w (IntB (pickN i n : Nat) w) :=
  (pspick i n w hn hb).mono fun _ _ ⟨h, h2⟩ => ⟨h, h2 ▸ Below.refl _ _⟩
theorem ownI_mono {B B' : Nat} {w : World} {v : Value} {l : List Int} (h : Lst.OwnI B w v l) (hb : B' ≤ B) : Lst.OwnI B' w v l := by
  obtain ⟨h1, h2⟩ := h
  refine ⟨h1, ?_⟩
  rcases h2 with h2 | ⟨g, cap, cur, hv, hB, h3⟩
  · exact .inl h2
  · exact .inr ⟨g, cap, cur, hv, by omega, h3⟩
/-- A list of ints that a call has made is kept. -/
theorem PS.ints {w0 wa w : World} {pv : Value} {o : Option Nat} {room : Nat} {zs : List Cel} {bs : List (Nat × Obj)} {v : Value} {l : List Int} (h : PS w0 wa pv o room zs (.slice none 0 0) [] bs) (hb : Below wa.heap.size wa w) (ho : Lst.OwnI wa.heap.size w v l) :
    ∃ nb, PS w0 w pv o room zs (.slice none 0 0) [] (nb ++ bs) ∧ LI nb v l ∧ ∀ p ∈ nb, wa.heap.size ≤ p.1 := by
  rcases ho.2 with ⟨hv, h0⟩ | ⟨g, cap, cur, hv, hB, hg, hc, _, hsz, htk⟩
  · exact ⟨[], h.below hb, .inl ⟨List.length_eq_zero_iff.1 h0, none, 0, hv, fun _ => rfl⟩, fun p hp => by cases hp⟩
  · refine ⟨[(g, .cells cur 3)], h.keepNew hb hg hB, .inr ⟨(g, .cells cur 3), List.mem_singleton.2 rfl, cur, 0, cap, rfl, hv, hc, fun k hk => ?_⟩, fun q hq => by rw [List.mem_singleton.1 hq]; exact hB⟩
    have : (cur.toList.take (l.length * 1))[k]? = (l.map (Value.int .i64))[k]? := by rw [htk]
    rw [List.getElem?_take, if_pos (by omega), Array.getElem?_toList, List.getElem?_map, List.getElem?_eq_getElem hk] at this
    rw [Nat.zero_add, this, List.getD_eq_getElem?_getD, List.getElem?_eq_getElem hk]
    rfl
theorem insAt_size {i : Nat} {x : Int} {t : Tre} (h : i ≤ t.size) : (Tre.insAt i x t).size = t.size + 1 := by
  rw [← Tre.vals_len, Tre.insAt_vals _ _ _ h, List.length_append, List.length_cons, List.length_take, List.length_drop, Tre.vals_len]; omega
theorem k0_insAt {T : Tre} (i : Nat) (x : Int) (h : K0 T) : K0 (Tre.insAt i x T) := chg_k0 (f := fun _ => Tre.node .nil 0 x .nil) (fun _ _ => ⟨rfl, trivial, trivial⟩) T _ h
theorem del_ins {i : Nat} {x : Int} {t : Tre} (h : i ≤ t.size) : (Tre.delAt i (Tre.insAt i x t)).vals = t.vals := by
  rw [Tre.delAt_vals _ _ (by rw [insAt_size h]; omega), Tre.insAt_vals _ _ _ h]
  have hl : (t.vals.take i).length = i := by rw [List.length_take, Tre.vals_len]; omega
  rw [List.eraseIdx_append_of_length_le (by omega), hl, Nat.sub_self, List.eraseIdx_cons_zero, List.take_append_drop]
/-- A tree, its number, its list. -/
abbrev Ent := Tre × Int × Value
def rows4 (pv : Value) (l : List Ent) : List Value := l.flatMap fun e => [pv, .int .i64 e.2.1]
def rows5 (l : List Ent) : List Value := l.flatMap fun e => [e.2.2]
theorem rows4_snoc (pv : Value) (l : List Ent) (t : Tre) (r : Int) (v : Value) : rows4 pv (l ++ [(t, r, v)]) = rows4 pv l ++ [pv, .int .i64 r] := by simp [rows4]
theorem rows5_snoc (l : List Ent) (t : Tre) (r : Int) (v : Value) : rows5 (l ++ [(t, r, v)]) = rows5 l ++ [v] := by simp [rows5]
theorem ent_at (pv : Value) : ∀ (l : List Ent) (i : Nat), i < l.length → ∃ t r v, (t, r, v) ∈ l ∧ (rows4 pv l)[i * 2]? = some pv ∧ (rows4 pv l)[i * 2 + 1]? = some (.int .i64 r) ∧ (rows5 l)[i]? = some v
  | (t, r, v) :: l, 0, _ => ⟨t, r, v, List.mem_cons_self .., rfl, rfl, rfl⟩
  | e :: l, i + 1, h => by
    obtain ⟨t, r, v, h1, h2, h3, h4⟩ := ent_at pv l i (by simpa using h)
    refine ⟨t, r, v, List.mem_cons_of_mem _ h1, ?_, ?_, ?_⟩
    · rw [show (i + 1) * 2 = i * 2 + 1 + 1 by omega]; exact h2
    · rw [show (i + 1) * 2 + 1 = i * 2 + 1 + 1 + 1 by omega]; exact h3
    · exact h4
/-- One of them. -/
def EI (zs : List Cel) (n : Nat) (es : List (Nat × Obj)) (t : Tre) (r : Int) (v : Value) : Prop := Tr zs t r ∧ K0 t ∧ t.bal ∧ t.size ≤ n ∧ LI es v t.vals
/-- All of them. -/
def EA (pv : Value) (zs : List Cel) (n : Nat) (p4 p5 : Nat × Obj) (v4 v5 : Value) (es : List (Nat × Obj)) (l : List Ent) : Prop :=
  l.length = n ∧ RowB 27 2 p4 v4 n (rows4 pv l) ∧ RowB 29 1 p5 v5 n (rows5 l) ∧ (∀ t r v, (t, r, v) ∈ l → EI zs n es t r v) ∧ (∀ q ∈ p5 :: es, q.1 ≠ p4.1) ∧ (∀ q ∈ es, q.1 ≠ p5.1) ∧ zs.length ≤ 80 * n
theorem EA.first (pv : Value) (g4 g5 : Nat) (h : g5 ≠ g4) : EA pv [] 1 (g4, .cells #[pv, .int .i64 0] 27) (g5, .cells #[.slice none 0 0] 29) (.slice (some ⟨g4, 0, none⟩) 1 1) (.slice (some ⟨g5, 0, none⟩) 1 1) [] [(.nil, 0, .slice none 0 0)] := by
  refine ⟨rfl, RowB.lit (xs := [pv, .int .i64 0]) rfl, RowB.lit (xs := [.slice none 0 0]) rfl, fun t r v hm => ?_, fun q hq => ?_, (fun q hq => by cases hq), by simp⟩
  · rw [List.mem_singleton] at hm
    injection hm with e1 e2
    injection e2 with e2 e3
    subst e1 e2 e3
    exact ⟨rfl, trivial, trivial, Nat.zero_le _, .inl ⟨rfl, _, _, rfl, fun _ => rfl⟩⟩
  · rw [List.mem_singleton] at hq
    subst hq
    exact h
/-- The step: one more. -/
theorem EA.next {pv : Value} {zs zs' : List Cel} {n : Nat} {p4 p5 p4' p5' : Nat × Obj} {v4 v5 v4' v5' : Value} {es nb : List (Nat × Obj)} {l : List Ent} {t : Tre} {r : Int} {v : Value} (h : EA pv zs n p4 p5 v4 v5 es l) (he : ∃ new, zs' = zs ++ new) (hz : zs'.length ≤ 80 * (n + 1))
    (h1 : Tr zs' t r ∧ K0 t ∧ t.bal ∧ t.size ≤ n + 1) (h2 : LI nb v t.vals) (r4 : RowB 27 2 p4' v4' (n + 1) (rows4 pv l ++ [pv, .int .i64 r])) (r5 : RowB 29 1 p5' v5' (n + 1) (rows5 l ++ [v])) (d4 : ∀ q ∈ p5' :: (nb ++ es), q.1 ≠ p4'.1) (d5 : ∀ q ∈ nb ++ es, q.1 ≠ p5'.1) :
    EA pv zs' (n + 1) p4' p5' v4' v5' (nb ++ es) (l ++ [(t, r, v)]) := by
  obtain ⟨k1, k2, k3, k4, k5, k6, k7⟩ := h
  refine ⟨by simp [k1], by rw [rows4_snoc]; exact r4, by rw [rows5_snoc]; exact r5, fun t' r' v' hm => ?_, d4, d5, hz⟩
  rcases List.mem_append.1 hm with hm | hm
  · obtain ⟨a1, a2, a3, a4, a5⟩ := k4 t' r' v' hm
    obtain ⟨new, rfl⟩ := he
    exact ⟨a1.append _, a2, a3, by omega, a5.mono fun p hp => List.mem_append_right _ hp⟩
  · rw [List.mem_singleton] at hm
    injection hm with e1 e2
    injection e2 with e2 e3
    subst e1 e2 e3
    exact ⟨h1.1, h1.2.1, h1.2.2.1, h1.2.2.2, h2.mono fun p hp => List.mem_append_left _ hp⟩
set_option maxRecDepth 100000 in
theorem seq_info : (Try.prog.info? 27).map (fun i => (i.zero, i.size, i.bytes)) = some (some (.agg #[.pointer none, .int .i64 0]), 2, 16) := by kernel_rfl
set_option maxRecDepth 100000 in
theorem lst_info : (Try.prog.info? 29).map (fun i => (i.zero, i.size, i.bytes)) = some (some (.slice none 0 0), 1, 24) := by kernel_rfl
end Go.Proofs.Ytbgepeokadmemaa.Q
