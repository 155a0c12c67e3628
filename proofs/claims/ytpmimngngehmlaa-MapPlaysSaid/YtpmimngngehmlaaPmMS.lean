/-
  MapPlays: the maps made so far: what holds between the rounds. Not a statement of the seat.
-/
import Derived.Test.YtpmimngngehmlaaPmMA
namespace Go.Proofs.Ytpmimngngehmlaa.F
open Go.ChangeShapes Go.WideShapes Go.ChangeAt Go.RowKit Go.Sort Base
/-- Which place is picked. -/
def pickN (i : Int) (n : Nat) : Nat := if i.tmod (n : Int) < 0 then (i.tmod (n : Int) + (n : Int)).toNat else (i.tmod (n : Int)).toNat
theorem pickN_lt (i : Int) (n : Nat) (hn : 0 < n) : pickN i n < n := by
  have h1 : -(n : Int) < i.tmod (n : Int) ∧ i.tmod (n : Int) < (n : Int) := ⟨Int.lt_tmod_of_pos _ (by omega), Int.tmod_lt_of_pos _ (by omega)⟩
  unfold pickN
  split <;> omega
set_option maxRecDepth 100000 in
theorem pmpick_is (i : Int) (n : Nat) (w : World) (hn : 0 < n) (hb : n ≤ 1000000) : Calls Try.prog 16 #[.int .i64 i, .int .i64 (n : Int)] w (IntB (pickN i n : Nat) w) := by
  have hn0 : ((n : Int) == 0) = false := by rw [beq_eq_false_iff_ne]; omega
  have h1 : -(n : Int) < i.tmod (n : Int) ∧ i.tmod (n : Int) < (n : Int) := ⟨Int.lt_tmod_of_pos _ (by omega), Int.tmod_lt_of_pos _ (by omega)⟩
  have hw : IntKind.i64.wrap (i.tmod (n : Int)) = i.tmod (n : Int) := IntWalk.i64_in _ (by omega)
  have hp : (0 ≤ i.tmod (n : Int) → ((pickN i n : Nat) : Int) = i.tmod (n : Int)) ∧ (i.tmod (n : Int) < 0 → ((pickN i n : Nat) : Int) = i.tmod (n : Int) + (n : Int)) := by
    unfold pickN
    constructor
    · intro h; rw [if_neg (by omega)]; omega
    · intro h; rw [if_pos h]; omega
  have HP := Lib.hid hp
  clear hp
  generalize ((pickN i n : Nat) : Int) = r at HP ⊢
  go_enter Try.func16, Try.ntmps16
  go_wp2
  · go_ret
    exact ⟨ret_int (HP.out.2 (by omega)).symm, Below.refl _ _⟩
  · go_ret
    exact ⟨ret_int (HP.out.1 (by omega)).symm, Below.refl _ _⟩
/-- A map, its arena's place, its tree. -/
structure En where
  x : On
  j : Nat
  t : Tre
def En.ok (n : Nat) (ars : List AB2) (lb : List (Nat × Obj)) (z : En) : Prop :=
  ∃ (A : Arn) (es : List (Nat × Obj)), ars[z.j]? = some (A, es) ∧ A.pv = .pointer z.x.a ∧ z.x.m = z.x.a ∧ z.x.n = z.t.list.length ∧ NE A.zs z.t z.x.r n ∧ LV lb (.slice z.x.p z.x.n z.x.c) z.t.list
def rowsE (l : List En) : List Value := l.flatMap fun z => z.x.cells
theorem en_at : ∀ (l : List En) (k : Nat), k < l.length → ∃ z ∈ l, (rowsE l)[k * 4]? = some (.pointer z.x.m) ∧ (rowsE l)[k * 4 + 1]? = some (.int .i64 z.x.r) ∧ (rowsE l)[k * 4 + 2]? = some (.pointer z.x.a) ∧ (rowsE l)[k * 4 + 3]? = some (.slice z.x.p z.x.n z.x.c)
  | z :: l, 0, _ => ⟨z, List.mem_cons_self .., rfl, rfl, rfl, rfl⟩
  | z :: l, k + 1, h => by
    obtain ⟨y, h1, h2, h3, h4, h5⟩ := en_at l k (by simpa using h)
    refine ⟨y, List.mem_cons_of_mem _ h1, ?_, ?_, ?_, ?_⟩
    · rw [show (k + 1) * 4 = k * 4 + 1 + 1 + 1 + 1 by omega]; exact h2
    · rw [show (k + 1) * 4 + 1 = k * 4 + 1 + 1 + 1 + 1 + 1 by omega]; exact h3
    · rw [show (k + 1) * 4 + 2 = k * 4 + 2 + 1 + 1 + 1 + 1 by omega]; exact h4
    · rw [show (k + 1) * 4 + 3 = k * 4 + 3 + 1 + 1 + 1 + 1 by omega]; exact h5
theorem NE.mono {zs new : List Cel} {t : Tre} {r : Int} {n m : Nat} (h : NE zs t r n) (hm : n ≤ m) : NE (zs ++ new) t r m := ⟨h.1.append _, h.2.1, h.2.2.1, Nat.le_trans h.2.2.2 hm⟩
/-- What holds between the rounds. -/
def MS (w0 w : World) (n : Nat) (pR : Nat × Obj) (v : Value) (ents : List En) (ars : List AB2) (lb : List (Nat × Obj)) : Prop :=
  MA w0 w pR lb ars ∧ RowB 31 4 pR v n (rowsE ents) ∧ ents.length = n ∧ ∀ z ∈ ents, z.ok n ars lb
/-- All but the row, behind a deed. -/
theorem MS.next {w0 w w' : World} {n : Nat} {pR : Nat × Obj} {v : Value} {ents : List En} {ars : List AB2} {lb nb : List (Nat × Obj)} {z : En} {A : Arn} {es : List (Nat × Obj)} {o' : Option Nat} {zs' : List Cel} {x : On} {t' : Tre} (h : MS w0 w n pR v ents ars lb) (hj : ars[z.j]? = some (A, es)) (hpv : A.pv = .pointer z.x.a)
    (hp : PS w0 w' (.pointer z.x.a) o' A.room zs' (.slice none 0 0) [] (nb ++ (pR :: (lb ++ flatA (ars.eraseIdx z.j))))) (hnb : ∀ q ∈ nb, w.heap.size ≤ q.1) (hne : ∃ new, zs' = A.zs ++ new) (hm : x.m = x.a) (hn : x.n = t'.list.length)
    (hor : (x.a = z.x.a ∧ NE zs' t' x.r (n + 1) ∧ LV (nb ++ lb) (.slice x.p x.n x.c) t'.list) ∨ (∃ A2 : Arn, A2.pv = .pointer x.a ∧ Rest nb A2 ∧ NE A2.zs t' x.r (n + 1) ∧ LV lb (.slice x.p x.n x.c) t'.list)) :
    ∃ ars' lb' j', MA w0 w' pR lb' ars' ∧ ∀ y ∈ ents ++ [⟨x, j', t'⟩], En.ok (n + 1) ars' lb' y := by
  obtain ⟨h1, h2, h3, h4⟩ := h
  rw [← hpv] at hp
  obtain ⟨new, rfl⟩ := hne
  obtain ⟨es', hM, hd⟩ := h1.lay hj hp hnb
  have hjl : z.j < ars.length := (List.getElem?_eq_some_iff.1 hj).1
  have hold : ∀ y ∈ ents, En.ok (n + 1) (ars.set z.j (⟨A.pv, o', A.room, A.zs ++ new⟩, es')) lb y := fun y hy => by
    obtain ⟨B, eb, k1, k2, k3, k4, k5, k6⟩ := h4 y hy
    by_cases e : z.j = y.j
    · rw [← e, hj] at k1
      injection k1 with k1
      injection k1 with k1 k7
      subst k1
      exact ⟨⟨A.pv, o', A.room, A.zs ++ new⟩, es', by rw [← e, List.getElem?_set, if_pos rfl, if_pos hjl], k2, k3, k4, k5.mono (Nat.le_succ _), k6⟩
    · refine ⟨B, eb, by rw [List.getElem?_set, if_neg e]; exact k1, k2, k3, k4, ?_, k6⟩
      have := k5.mono (new := []) (Nat.le_succ n)
      rwa [List.append_nil] at this
  rcases hor with ⟨e1, e2, e3⟩ | ⟨A2, e1, e2, e3, e4⟩
  · refine ⟨_, nb ++ lb, z.j, hM, fun y hy => ?_⟩
    rcases List.mem_append.1 hy with hy | hy
    · obtain ⟨B, eb, k1, k2, k3, k4, k5, k6⟩ := hold y hy
      exact ⟨B, eb, k1, k2, k3, k4, k5, k6.mono fun q hq => List.mem_append_right _ hq⟩
    · rw [List.mem_singleton.1 hy]
      exact ⟨⟨A.pv, o', A.room, A.zs ++ new⟩, es', by rw [List.getElem?_set, if_pos rfl, if_pos hjl], by rw [e1]; exact hpv, hm, hn, e2, e3⟩
  · have hw0 := h1.1.1.2.1.size
    refine ⟨_, lb, ars.length, hM.arena e2 (fun q hq => by have := hnb q hq; omega) (fun p hp q hq => ?_), fun y hy => ?_⟩
    · have h5 := hnb p hp
      have h6 := heap_lt (h1.1.2.2 q (by simp [hq])).1
      omega
    · rcases List.mem_append.1 hy with hy | hy
      · obtain ⟨B, eb, k1, k2⟩ := hold y hy
        exact ⟨B, eb, by rw [List.getElem?_append_left (List.getElem?_eq_some_iff.1 k1).1]; exact k1, k2⟩
      · rw [List.mem_singleton.1 hy]
        exact ⟨A2, nb, by rw [List.getElem?_append_right (by simp)]; simp, e1, hm, hn, e3, e4⟩
/-- The row is grown. -/
theorem MA.grow {w0 w w' : World} {pR p' : Nat × Obj} {lb : List (Nat × Obj)} {ars : List AB2} (h : MA w0 w pR lb ars) (hg : w.grownBy w' (some pR.1)) (hp : w'.heap[p'.1]? = some p'.2) (he : p'.1 = pR.1 ∨ p'.1 = w.heap.size) : MA w0 w' p' lb ars := by
  obtain ⟨h1, h2, h3, h4, h5, h6⟩ := h
  obtain ⟨k1, k2, k3⟩ := PS.grow h1 h4 h2 hg hp he
  exact ⟨k1, k3, h3, k2, h5, h6⟩
theorem MA.below {w0 w w' : World} {pR : Nat × Obj} {lb : List (Nat × Obj)} {ars : List AB2} (h : MA w0 w pR lb ars) (hb : Below w.heap.size w w') : MA w0 w' pR lb ars := ⟨h.1.below hb, h.2⟩
theorem rowsE_snoc (l : List En) (z : En) : rowsE (l ++ [z]) = rowsE l ++ z.x.cells := by simp [rowsE]
end Go.Proofs.Ytpmimngngehmlaa.F
