/-
  MapPlays: step's contract, whatever the deed; several arenas, all at rest: how one is taken up, and laid down again. Not a statement of the seat.
-/
import Derived.Test.YtpmimngngehmlaaPmStep0
import Derived.Test.YtpmimngngehmlaaPmStep1
import Derived.Test.YtpmimngngehmlaaPmStep2
import Derived.Test.YtpmimngngehmlaaPmStep3
import Derived.Test.YtpmimngngehmlaaPmStep4
namespace Go.Proofs.Ytpmimngngehmlaa.F
open Go.ChangeShapes Go.WideShapes Go.ChangeAt Go.RowKit Go.Sort Base
/-- A tree of an arena. -/
def NE (zs : List Cel) (t : Tre) (r : Int) (n : Nat) : Prop := Tr zs t r ∧ SortL t.list ∧ t.bal ∧ t.size ≤ n
/-- What a deed leaves, whatever it is. -/
def StepAll (w0 w : World) (a : Option Addr) (room : Nat) (zs : List Cel) (bs ls : List (Nat × Obj)) (n : Nat) (e : Ending) (w' : World) : Prop :=
  ∃ (x : On) (o' : Option Nat) (zs' : List Cel) (nb : List (Nat × Obj)), e = .returned (.tuple #[.agg #[.pointer x.m, .int .i64 x.r, .pointer x.a, .slice x.p x.n x.c], .bool true]) ∧ PS w0 w' (.pointer a) o' room zs' (.slice none 0 0) [] (nb ++ bs) ∧ (∀ q ∈ nb, w.heap.size ≤ q.1) ∧ (∃ new, zs' = zs ++ new) ∧ x.m = x.a ∧
    ∃ t' : Tre, x.n = t'.list.length ∧ ((x.a = a ∧ NE zs' t' x.r n ∧ LV (nb ++ ls) (.slice x.p x.n x.c) t'.list) ∨ (∃ A2 : Arn, A2.pv = .pointer x.a ∧ Rest nb A2 ∧ NE A2.zs t' x.r n ∧ LV ls (.slice x.p x.n x.c) t'.list))
section
variable {w0 w : World} {a : Option Addr} {o : Option Nat} {room : Nat} {zs : List Cel} {bs ls : List (Nat × Obj)} {t : Tre} {root : Int} {p : Option Addr} {c n : Nat}
theorem StepSame.all {o' : Option Nat} {e : Ending} {w' : World} (h : StepSame w0 a o' room zs bs root p t.list.length c e w') (ht : NE zs t root n) (hlv : LV ls (.slice p t.list.length c) t.list) : StepAll w0 w a room zs bs ls (n + 1) e w' :=
  ⟨⟨a, root, a, p, t.list.length, c⟩, o', zs, [], h.1, h.2, (fun q hq => by cases hq), ⟨[], by simp⟩, rfl, t, rfl, .inl ⟨rfl, ⟨ht.1, ht.2.1, ht.2.2.1, Nat.le_succ_of_le ht.2.2.2⟩, hlv⟩⟩
theorem StepOk.all {T : Tre} {e : Ending} {w' : World} (h : StepOk w0 w a room zs bs T e w') (h1 : SortL T.list) (h2 : T.bal) (h3 : T.size ≤ n + 1) : StepAll w0 w a room zs bs ls (n + 1) e w' := by
  obtain ⟨o', zs', root', p', c', nb, he, hn, ht, hl, hnb, hp⟩ := h
  exact ⟨⟨a, root', a, p', T.list.length, c'⟩, o', zs', nb, he, hp, hnb, hn, rfl, T, rfl, .inl ⟨rfl, ⟨ht, h1, h2, h3⟩, hl.mono fun q hq => List.mem_append_left _ hq⟩⟩
theorem pmstep (kind from_ key val : Int) (h : PS w0 w (.pointer a) o room zs (.slice none 0 0) [] bs) (ht : NE zs t root n) (hn : n ≤ 1000) (hlv0 : LV ls (.slice p t.list.length c) t.list) (hsub : ∀ q ∈ ls, q ∈ bs) (hok : Pai.ok ⟨key, val⟩) :
    Calls Try.prog 15 #[.agg #[.pointer a, .int .i64 root, .pointer a, .slice p t.list.length c], .agg #[.int .i64 kind, .int .i64 from_, .int .i64 key, .int .i64 val]] w (StepAll w0 w a room zs bs ls (n + 1)) := by
  have hlv := hlv0.mono hsub
  obtain ⟨h1, h2, h3, h4⟩ := id ht
  have hi := ins_size1 key val t
  have hput : ∀ e w', ((∃ o', StepSame w0 a o' room zs bs root p t.list.length c e w') ∨ StepOk w0 w a room zs bs (Tre.ins key val t) e w') → StepAll w0 w a room zs bs ls (n + 1) e w' := fun e w' hh => by
    rcases hh with ⟨o', hh⟩ | hh
    · exact hh.all ht hlv0
    · exact hh.all (link key val t h2).2.1 (Tre.ins_bal key val h3).1 (by omega)
  by_cases k0 : kind = 0
  · subst k0
    exact (pmstep_put0 from_ key val h h1 (by omega) hok h2 hlv).mono hput
  by_cases k1 : kind = 1
  · subst k1
    exact (pmstep_put1 from_ key val h h1 (by omega) hok h2 hlv).mono hput
  by_cases k2 : kind = 2
  · subst k2
    exact (pmstep_put2 from_ key val h h1 (by omega) hok h2 hlv).mono hput
  by_cases k3 : kind = 3
  · subst k3
    cases hk : t.has key with
    | false => exact (pmstep_delN from_ key val h h1 (by omega) h2 hlv hk).mono fun e w' hh => hh.all ht hlv0
    | true =>
      refine (pmstep_del from_ key val h h1 (by omega) h2 hlv hk).mono fun e w' hh => ?_
      rcases hh with ⟨o', hh⟩ | hh
      · exact hh.all ht hlv0
      · exact hh.all ((link key 0 t h2).2.2.2.2.2 hk).2 (Tre.del_bal key h3).1 (by have := del_size1 key t h2 hk; omega)
  by_cases k4 : kind = 4
  · subst k4
    refine (pmstep_move from_ key val h h1 (by omega) (by omega)).mono fun e w' hh => ?_
    rcases hh with hh | ⟨b2, o2, zs2, root2, es, he, hr, hz, htr, hes, hp⟩
    · exact hh.all ht hlv0
    · refine ⟨⟨some ⟨b2, 0, none⟩, root2, some ⟨b2, 0, none⟩, p, t.list.length, c⟩, o, zs, es, he, hp, hes, ⟨[], by simp⟩, rfl, mkT t.list, ?_, .inr ⟨_, rfl, hr, ⟨htr, ?_, (mkT_high _ t.list rfl).2, ?_⟩, ?_⟩⟩
      · rw [mkT_list _ _ rfl]
      · rw [mkT_list _ _ rfl]; exact h2
      · rw [mkT_size, Tre.list_len]; omega
      · rw [mkT_list _ _ rfl]; exact hlv0
  · exact (pmstep_none kind from_ key val h h1 (by omega) (by omega)).mono fun e w' hh => hh.all ht hlv0
end
/-- An arena and its blocks. -/
abbrev AB2 := Arn × List (Nat × Obj)
def flatA (ars : List AB2) : List (Nat × Obj) := ars.flatMap fun A => A.2
theorem mem_flatA {ars : List AB2} {q : Nat × Obj} : q ∈ flatA ars ↔ ∃ (i : Nat) (A : AB2), ars[i]? = some A ∧ q ∈ A.2 := by
  unfold flatA
  rw [List.mem_flatMap]
  constructor
  · rintro ⟨A, hA, hq⟩
    obtain ⟨i, hi⟩ := List.mem_iff_getElem?.1 hA
    exact ⟨i, A, hi, hq⟩
  · rintro ⟨i, A, hi, hq⟩
    exact ⟨A, List.mem_iff_getElem?.2 ⟨i, hi⟩, hq⟩
theorem mem_flatE {ars : List AB2} {j : Nat} {q : Nat × Obj} : q ∈ flatA (ars.eraseIdx j) ↔ ∃ (i : Nat) (A : AB2), i ≠ j ∧ ars[i]? = some A ∧ q ∈ A.2 := by
  unfold flatA
  rw [List.mem_flatMap]
  constructor
  · rintro ⟨A, hA, hq⟩
    obtain ⟨i, hi, he⟩ := List.mem_eraseIdx_iff_getElem?.1 hA
    exact ⟨i, A, hi, he, hq⟩
  · rintro ⟨i, A, hi, he, hq⟩
    exact ⟨A, List.mem_eraseIdx_iff_getElem?.2 ⟨i, hi, he⟩, hq⟩
/-- All arenas are at rest; beside them lie a row and lists. -/
def MA (w0 w : World) (pR : Nat × Obj) (lb : List (Nat × Obj)) (ars : List AB2) : Prop :=
  PS w0 w (.pointer none) none 0 [] (.slice none 0 0) [] (pR :: (lb ++ flatA ars)) ∧ w0.heap.size ≤ pR.1 ∧ (∀ (i : Nat) (A : AB2), ars[i]? = some A → Rest A.2 A.1 ∧ ∀ p ∈ A.2, w0.heap.size ≤ p.1) ∧
  (∀ q ∈ lb ++ flatA ars, q.1 ≠ pR.1) ∧ (∀ (i : Nat) (A : AB2), ars[i]? = some A → ∀ p ∈ A.2, ∀ q ∈ lb, q.1 ≠ p.1) ∧
  (∀ (i k : Nat) (A B : AB2), ars[i]? = some A → ars[k]? = some B → i ≠ k → ∀ p ∈ A.2, ∀ q ∈ B.2, q.1 ≠ p.1)
theorem rest_nil : Rest [] ⟨.pointer none, none, 0, []⟩ :=
  ⟨fun g => ⟨(fun k => by rcases k with k | k <;> cases k), (fun ⟨p, hp, _⟩ => by cases hp)⟩, fun w _ => ArV.nil w⟩
section
variable {w0 w w' : World} {pR : Nat × Obj} {lb nb : List (Nat × Obj)} {ars : List AB2} {j : Nat} {A : Arn} {es : List (Nat × Obj)}
/-- The arena j is taken up. -/
theorem MA.take (h : MA w0 w pR lb ars) (hj : ars[j]? = some (A, es)) : PS w0 w A.pv A.o A.room A.zs (.slice none 0 0) [] (pR :: (lb ++ flatA (ars.eraseIdx j))) := by
  obtain ⟨h1, h2, h3, h4, h5, h6⟩ := h
  have hd := h1.drop (bs' := es ++ (pR :: (lb ++ flatA (ars.eraseIdx j)))) (fun q hq => by
    simp only [List.mem_append, List.mem_cons] at hq ⊢
    rcases hq with hq | hq | hq | hq
    · exact .inr (.inr (mem_flatA.2 ⟨j, _, hj, hq⟩))
    · exact .inl hq
    · exact .inr (.inl hq)
    · obtain ⟨i, B, _, hi, hq⟩ := mem_flatE.1 hq
      exact .inr (.inr (mem_flatA.2 ⟨i, B, hi, hq⟩)))
  obtain ⟨es', _, hp, _, _⟩ := PS.switch hd (h3 j _ hj).1 (h3 j _ hj).2 (fun p hp q hq => by
    simp only [List.mem_append, List.mem_cons] at hq
    rcases hq with rfl | hq | hq
    · exact (h4 p (List.mem_append_right _ (mem_flatA.2 ⟨j, _, hj, hp⟩))).symm
    · exact h5 j _ hj p hp q hq
    · obtain ⟨i, B, hne, hi, hq⟩ := mem_flatE.1 hq
      exact h6 j i _ _ hj hi (fun e => hne e.symm) p hp q hq)
  exact hp.drop fun q hq => List.mem_append_right _ hq
theorem getElem?_put {ars : List AB2} {j i : Nat} {X B : AB2} (hj : j < ars.length) (h : (ars.set j X)[i]? = some B) : (i = j ∧ B = X) ∨ (i ≠ j ∧ ars[i]? = some B) := by
  rw [List.getElem?_set] at h
  by_cases e : j = i
  · rw [if_pos e, if_pos (by omega)] at h
    exact .inl ⟨e.symm, (Option.some.inj h).symm⟩
  · rw [if_neg e] at h
    exact .inr ⟨fun k => e k.symm, h⟩
/-- It is laid down again; what is new are lists. -/
theorem MA.lay (h : MA w0 w pR lb ars) (hj : ars[j]? = some (A, es)) {o' : Option Nat} {zs' : List Cel} (hp : PS w0 w' A.pv o' A.room zs' (.slice none 0 0) [] (nb ++ (pR :: (lb ++ flatA (ars.eraseIdx j))))) (hnb : ∀ q ∈ nb, w.heap.size ≤ q.1) :
    ∃ es', MA w0 w' pR (nb ++ lb) (ars.set j (⟨A.pv, o', A.room, zs'⟩, es')) ∧ ∀ p ∈ es', ∀ q ∈ nb, q.1 ≠ p.1 := by
  obtain ⟨h1, h2, h3, h4, h5, h6⟩ := h
  have hjl : j < ars.length := (List.getElem?_eq_some_iff.1 hj).1
  have hold : ∀ q ∈ pR :: (lb ++ flatA ars), q.1 < w.heap.size := fun q hq => heap_lt (h1.2.2 q hq).1
  obtain ⟨es', hr, hP, hb, hd⟩ := PS.switch (es := []) (bs := nb ++ (pR :: (lb ++ flatA (ars.eraseIdx j)))) hp rest_nil (fun p hp => by cases hp) (fun p hp => by cases hp)
  have hd' : ∀ p ∈ es', ∀ q ∈ nb ++ (pR :: (lb ++ flatA (ars.eraseIdx j))), q.1 ≠ p.1 := fun p hp q hq => hd p hp q hq
  have hfl : ∀ q, q ∈ flatA (ars.set j (⟨A.pv, o', A.room, zs'⟩, es')) → q ∈ es' ∨ q ∈ flatA (ars.eraseIdx j) := fun q hq => by
    obtain ⟨i, B, hi, hq⟩ := mem_flatA.1 hq
    rcases getElem?_put hjl hi with ⟨_, rfl⟩ | ⟨hne, hi⟩
    · exact .inl hq
    · exact .inr (mem_flatE.2 ⟨i, B, hne, hi, hq⟩)
  have hfe : ∀ q, q ∈ flatA (ars.eraseIdx j) → q ∈ flatA ars := fun q hq => by
    obtain ⟨i, B, _, hi, hq⟩ := mem_flatE.1 hq
    exact mem_flatA.2 ⟨i, B, hi, hq⟩
  refine ⟨es', ⟨hP.drop fun q hq => ?_, h2, fun i B hi => ?_, fun q hq => ?_, fun i B hi p hp q hq => ?_, fun i k B C hi hk hne p hp q hq => ?_⟩, fun p hp q hq => hd' p hp q (List.mem_append_left _ hq)⟩
  · simp only [List.mem_append, List.mem_cons] at hq ⊢
    rcases hq with hq | (hq | hq) | hq
    · exact .inr (.inr (.inl hq))
    · exact .inr (.inl hq)
    · exact .inr (.inr (.inr (.inl hq)))
    · rcases hfl q hq with hq | hq
      · exact .inl hq
      · exact .inr (.inr (.inr (.inr hq)))
  · rcases getElem?_put hjl hi with ⟨_, rfl⟩ | ⟨hne, hi⟩
    · exact ⟨hr, hb⟩
    · exact h3 i B hi
  · simp only [List.mem_append] at hq
    rcases hq with (hq | hq) | hq
    · have := hnb q hq; have := hold pR (List.mem_cons_self ..); omega
    · exact h4 q (List.mem_append_left _ hq)
    · rcases hfl q hq with hq | hq
      · exact (hd' q hq pR (by simp)).symm
      · exact h4 q (List.mem_append_right _ (hfe q hq))
  · rcases getElem?_put hjl hi with ⟨_, rfl⟩ | ⟨hne, hi⟩
    · exact hd' p hp q (by simp only [List.mem_append, List.mem_cons] at hq ⊢; rcases hq with hq | hq; exact .inl hq; exact .inr (.inr (.inl hq)))
    · rcases List.mem_append.1 hq with hq | hq
      · have := hnb q hq; have := hold p (by simp only [List.mem_append, List.mem_cons]; exact .inr (.inr (mem_flatA.2 ⟨i, B, hi, hp⟩))); omega
      · exact h5 i B hi p hp q hq
  · rcases getElem?_put hjl hi with ⟨e1, rfl⟩ | ⟨hne1, hi⟩ <;> rcases getElem?_put hjl hk with ⟨e2, rfl⟩ | ⟨hne2, hk⟩
    · omega
    · exact hd' p hp q (by simp only [List.mem_append, List.mem_cons]; exact .inr (.inr (.inr (mem_flatE.2 ⟨k, C, hne2, hk, hq⟩))))
    · exact (hd' q hq p (by simp only [List.mem_append, List.mem_cons]; exact .inr (.inr (.inr (mem_flatE.2 ⟨i, B, hne1, hi, hp⟩))))).symm
    · exact h6 i k B C hi hk hne p hp q hq
theorem flatA_snoc (ars : List AB2) (Y : AB2) (q : Nat × Obj) : q ∈ flatA (ars ++ [Y]) ↔ q ∈ flatA ars ∨ q ∈ Y.2 := by
  unfold flatA
  simp
theorem getElem?_snoc {ars : List AB2} {i : Nat} {Y B : AB2} (h : (ars ++ [Y])[i]? = some B) : (i = ars.length ∧ B = Y) ∨ (i < ars.length ∧ ars[i]? = some B) := by
  rcases Nat.lt_or_ge i ars.length with hi | hi
  · rw [List.getElem?_append_left hi] at h
    exact .inr ⟨hi, h⟩
  · rw [List.getElem?_append_right hi] at h
    by_cases e : i = ars.length
    · subst e
      simp at h
      exact .inl ⟨rfl, h.symm⟩
    · rw [List.getElem?_eq_none (by simp; omega)] at h
      cases h
/-- What was new, laid among the lists, is an arena. -/
theorem MA.arena {A2 : Arn} (h : MA w0 w' pR (nb ++ lb) ars) (hr : Rest nb A2) (hl : ∀ q ∈ nb, w0.heap.size ≤ q.1) (hd : ∀ p ∈ nb, ∀ q ∈ lb, q.1 ≠ p.1) : MA w0 w' pR lb (ars ++ [(A2, nb)]) := by
  obtain ⟨h1, h2, h3, h4, h5, h6⟩ := h
  refine ⟨h1.drop fun q hq => ?_, h2, fun i B hi => ?_, fun q hq => ?_, fun i B hi p hp q hq => ?_, fun i k B C hi hk hne p hp q hq => ?_⟩
  · simp only [List.mem_append, List.mem_cons, flatA_snoc] at hq ⊢
    rcases hq with hq | hq | hq | hq
    · exact .inl hq
    · exact .inr (.inl (.inr hq))
    · exact .inr (.inr hq)
    · exact .inr (.inl (.inl hq))
  · rcases getElem?_snoc hi with ⟨_, rfl⟩ | ⟨_, hi⟩
    · exact ⟨hr, hl⟩
    · exact h3 i B hi
  · simp only [List.mem_append, flatA_snoc] at hq
    refine h4 q ?_
    simp only [List.mem_append]
    rcases hq with hq | hq | hq
    · exact .inl (.inr hq)
    · exact .inr hq
    · exact .inl (.inl hq)
  · rcases getElem?_snoc hi with ⟨_, rfl⟩ | ⟨_, hi⟩
    · exact hd p hp q hq
    · exact h5 i B hi p hp q (List.mem_append_right _ hq)
  · rcases getElem?_snoc hi with ⟨e1, rfl⟩ | ⟨_, hi⟩ <;> rcases getElem?_snoc hk with ⟨e2, rfl⟩ | ⟨_, hk⟩
    · omega
    · exact (h5 k C hk q hq p (List.mem_append_left _ hp)).symm
    · exact h5 i B hi p hp q (List.mem_append_left _ hq)
    · exact h6 i k B C hi hk hne p hp q hq
end
end Go.Proofs.Ytpmimngngehmlaa.F
