/-
  SeqPlays: step's contract, whatever the deed; the sequences made so far: what holds between the rounds. Not a statement of the seat.
-/
import Derived.Test.YtbgepeokadmemaaSqStep0
import Derived.Test.YtbgepeokadmemaaSqStep1
import Derived.Test.YtbgepeokadmemaaSqStep2
import Derived.Test.YtbgepeokadmemaaSqStep3
import Derived.Test.YtbgepeokadmemaaSqStep4
import Derived.Test.YtbgepeokadmemaaSqStep5
import Derived.Test.YtbgepeokadmemaaSqStep6
import Derived.Test.YtbgepeokadmemaaHead4
namespace Go.Proofs.Ytbgepeokadmemaa.Q
open Go.ChangeShapes Go.WideShapes Go.ChangeAt Go.RowKit Go.Sort Base F
theorem sqstep {w0 w : World} {a : Option Addr} {o : Option Nat} {room : Nat} {zs : List Cel} {bs ls : List (Nat × Obj)} {t : Tre} {root : Int} {p : Option Addr} {c n : Nat} (kind from_ i val : Int) (hvb : -9223372036854775808 ≤ val ∧ val ≤ 9223372036854775807) (h : PS w0 w (.pointer a) o room zs (.slice none 0 0) [] bs) (ht : NS zs t root n) (hn : n ≤ 1000) (hbd : Bd7 t.vals) (hlv : LI ls (.slice p t.vals.length c) t.vals) (hsub : ∀ q ∈ ls, q ∈ bs) :
    Calls Try.prog 7 #[.agg #[.pointer a, .int .i64 root, .pointer a, .slice p t.vals.length c], .agg #[.int .i64 kind, .int .i64 from_, .int .i64 i, .int .i64 val]] w (SqAll w0 w a room zs bs ls (n + 1)) := by
  have hin : 0 ≤ i → ∃ m : Nat, i = (m : Int) := fun h => ⟨i.toNat, by omega⟩
  by_cases k0 : kind = 0
  · subst k0
    by_cases hi : 0 ≤ i ∧ i ≤ (t.size : Int)
    · obtain ⟨m, rfl⟩ := hin hi.1
      exact sqstep0 m from_ val hvb h ht hn hbd hlv hsub (by omega)
    · exact sqstep0_no from_ i val h ht hn hbd hlv hsub (by omega)
  by_cases k1 : kind = 1
  · subst k1
    by_cases hi : 0 ≤ i ∧ i ≤ (t.size : Int)
    · obtain ⟨m, rfl⟩ := hin hi.1
      exact sqstep1 m from_ val hvb h ht hn hbd hlv hsub (by omega)
    · exact sqstep1_no from_ i val h ht hn hbd hlv hsub (by omega)
  by_cases k2 : kind = 2
  · subst k2
    by_cases hi : 0 ≤ i ∧ i ≤ (t.size : Int)
    · obtain ⟨m, rfl⟩ := hin hi.1
      exact sqstep2 m from_ val hvb h ht hn hbd hlv hsub (by omega)
    · exact sqstep2_no from_ i val h ht hn hbd hlv hsub (by omega)
  by_cases k3 : kind = 3
  · subst k3
    by_cases hi : 0 ≤ i ∧ i < (t.size : Int)
    · obtain ⟨m, rfl⟩ := hin hi.1
      exact sqstep3 m from_ val hvb h ht hn hbd hlv hsub (by omega)
    · exact sqstep3_no from_ i val h ht hn hbd hlv hsub hi
  by_cases k4 : kind = 4
  · subst k4
    by_cases hi : 0 ≤ i ∧ i < (t.size : Int)
    · obtain ⟨m, rfl⟩ := hin hi.1
      exact sqstep4 m from_ val h ht hn hbd hlv hsub (by omega)
    · exact sqstep4_no from_ i val h ht hn hbd hlv hsub hi
  by_cases k5 : kind = 5
  · subst k5
    exact sqstep5 from_ i val h ht hn hbd hlv hsub
  by_cases k6 : kind = 6
  · subst k6
    exact sqstep6 from_ i val h ht hn hbd hlv hsub
  · exact sqstep_none kind from_ i val h ht hn hbd hlv hsub (by omega)
/-- A map, its arena's place, its tree. -/
structure En where
  x : Qn
  j : Nat
  t : Tre
def En.ok (n : Nat) (ars : List AB2) (lb : List (Nat × Obj)) (z : En) : Prop :=
  ∃ (A : Arn) (es : List (Nat × Obj)), ars[z.j]? = some (A, es) ∧ A.pv = .pointer z.x.a ∧ z.x.m = z.x.a ∧ z.x.n = z.t.vals.length ∧ NS A.zs z.t z.x.r n ∧ LI lb (.slice z.x.p z.x.n z.x.c) z.t.vals ∧ Bd7 z.t.vals
def rowsE (l : List En) : List Value := l.flatMap fun z => z.x.cells
theorem en_at : ∀ (l : List En) (k : Nat), k < l.length → ∃ z ∈ l, (rowsE l)[k * 4]? = some (.pointer z.x.m) ∧ (rowsE l)[k * 4 + 1]? = some (.int .i64 z.x.r) ∧ (rowsE l)[k * 4 + 2]? = some (.pointer z.x.a) ∧ (rowsE l)[k * 4 + 3]? = some (.slice z.x.p z.x.n z.x.c)
  | z :: l, 0, _ => ⟨z, List.mem_cons_self .., rfl, rfl, rfl, rfl⟩
  | z :: l, k + 1, h => by
    obtain ⟨y, h1, h2, h3, h4, h5⟩ := en_at l k (by simpa using h)
    refine ⟨y, List.mem_cons_of_mem _ h1, ?_, ?_, ?_, ?_⟩
    · rw [show (k + 1) * 4 = k * 4 + 1 + 1 + 1 + 1 by omega]; exact h2
    · rw [show (k + 1) * 4 + 1 = k * 4 + 1 + 1 + 1 + 1 + 1 by omega]; exact h3
    · rw [show (k + 1) * 4 + 2 = k * 4 + 2 + 1 + 1 + 1 + 1 by omega]; exact h4
    · rw [show (k + 1) * 4 + 3 = k * 4 + 3 + 1 + 1 + 1 + 1 by omega]; exact h5
theorem NS.mono {zs new : List Cel} {t : Tre} {r : Int} {n m : Nat} (h : NS zs t r n) (hm : n ≤ m) : NS (zs ++ new) t r m := ⟨h.1.append _, h.2.1, h.2.2.1, Nat.le_trans h.2.2.2 hm⟩
/-- What holds between the rounds. -/
def MS (w0 w : World) (n : Nat) (pR : Nat × Obj) (v : Value) (ents : List En) (ars : List AB2) (lb : List (Nat × Obj)) : Prop :=
  MA w0 w pR lb ars ∧ RowB 31 4 pR v n (rowsE ents) ∧ ents.length = n ∧ ∀ z ∈ ents, z.ok n ars lb
/-- All but the row, behind a deed. -/
theorem MS.next {w0 w w' : World} {n : Nat} {pR : Nat × Obj} {v : Value} {ents : List En} {ars : List AB2} {lb nb : List (Nat × Obj)} {z : En} {A : Arn} {es : List (Nat × Obj)} {o' : Option Nat} {zs' : List Cel} {x : Qn} {t' : Tre} (h : MS w0 w n pR v ents ars lb) (hj : ars[z.j]? = some (A, es)) (hpv : A.pv = .pointer z.x.a)
    (hp : PS w0 w' (.pointer z.x.a) o' A.room zs' (.slice none 0 0) [] (nb ++ (pR :: (lb ++ flatA (ars.eraseIdx z.j))))) (hnb : ∀ q ∈ nb, w.heap.size ≤ q.1) (hne : ∃ new, zs' = A.zs ++ new) (hm : x.m = x.a) (hn : x.n = t'.vals.length) (hbd : Bd7 t'.vals)
    (hor : (x.a = z.x.a ∧ NS zs' t' x.r (n + 1) ∧ LI (nb ++ lb) (.slice x.p x.n x.c) t'.vals) ∨ (∃ A2 : Arn, A2.pv = .pointer x.a ∧ F.Rest nb A2 ∧ NS A2.zs t' x.r (n + 1) ∧ LI lb (.slice x.p x.n x.c) t'.vals)) :
    ∃ ars' lb' j', MA w0 w' pR lb' ars' ∧ ∀ y ∈ ents ++ [⟨x, j', t'⟩], En.ok (n + 1) ars' lb' y := by
  obtain ⟨h1, h2, h3, h4⟩ := h
  rw [← hpv] at hp
  obtain ⟨new, rfl⟩ := hne
  obtain ⟨es', hM, hd⟩ := h1.lay hj hp hnb
  have hjl : z.j < ars.length := (List.getElem?_eq_some_iff.1 hj).1
  have hold : ∀ y ∈ ents, En.ok (n + 1) (ars.set z.j (⟨A.pv, o', A.room, A.zs ++ new⟩, es')) lb y := fun y hy => by
    obtain ⟨B, eb, k1, k2, k3, k4, k5, k6, k7⟩ := h4 y hy
    by_cases e : z.j = y.j
    · rw [← e, hj] at k1
      injection k1 with k1
      injection k1 with k1 _
      subst k1
      exact ⟨⟨A.pv, o', A.room, A.zs ++ new⟩, es', by rw [← e, List.getElem?_set, if_pos rfl, if_pos hjl], k2, k3, k4, k5.mono (Nat.le_succ _), k6, k7⟩
    · refine ⟨B, eb, by rw [List.getElem?_set, if_neg e]; exact k1, k2, k3, k4, ?_, k6, k7⟩
      have := k5.mono (new := []) (Nat.le_succ n)
      rwa [List.append_nil] at this
  rcases hor with ⟨e1, e2, e3⟩ | ⟨A2, e1, e2, e3, e4⟩
  · refine ⟨_, nb ++ lb, z.j, hM, fun y hy => ?_⟩
    rcases List.mem_append.1 hy with hy | hy
    · obtain ⟨B, eb, k1, k2, k3, k4, k5, k6, k7⟩ := hold y hy
      exact ⟨B, eb, k1, k2, k3, k4, k5, k6.mono (fun q hq => List.mem_append_right _ hq), k7⟩
    · rw [List.mem_singleton.1 hy]
      exact ⟨⟨A.pv, o', A.room, A.zs ++ new⟩, es', by rw [List.getElem?_set, if_pos rfl, if_pos hjl], by rw [e1]; exact hpv, hm, hn, e2, e3, hbd⟩
  · have hw0 := h1.1.1.2.1.size
    refine ⟨_, lb, ars.length, hM.arena e2 (fun q hq => by have := hnb q hq; omega) (fun p hp q hq => ?_), fun y hy => ?_⟩
    · have h5 := hnb p hp
      have h6 := heap_lt (h1.1.2.2 q (by simp [hq])).1
      omega
    · rcases List.mem_append.1 hy with hy | hy
      · obtain ⟨B, eb, k1, k2⟩ := hold y hy
        exact ⟨B, eb, by rw [List.getElem?_append_left (List.getElem?_eq_some_iff.1 k1).1]; exact k1, k2⟩
      · rw [List.mem_singleton.1 hy]
        exact ⟨A2, nb, by rw [List.getElem?_append_right (by simp)]; simp, e1, hm, hn, e3, e4, hbd⟩
theorem rowsE_snoc (l : List En) (z : En) : rowsE (l ++ [z]) = rowsE l ++ z.x.cells := by simp [rowsE]
end Go.Proofs.Ytbgepeokadmemaa.Q
