/-
  Several arenas: those that are not worked at lie in boxes. Not a statement of the seat.
-/
import Derived.Test.YtpmimngngehmlaaPmEnt
namespace Go.Proofs.Ytpmimngngehmlaa.F
open Go.ChangeShapes Go.WideShapes Go.ChangeAt Go.RowKit Base
/-- An arena: its pointer, where its cells lie, its room, its cells. -/
structure Arn where
  pv : Value
  o : Option Nat
  room : Nat
  zs : List Cel
/-- The blocks es are the arena a, whatever else there is. -/
def Rest (es : List (Nat × Obj)) (a : Arn) : Prop := (∀ g, VF a.pv a.o g ↔ ∃ p ∈ es, p.1 = g) ∧ ∀ w : World, (∀ p ∈ es, w.heap[p.1]? = some p.2) → ArV w a.pv a.o a.room a.zs
theorem ownsRow_at {w w' : World} {B S n : Nat} {T : TypeId} {v : Value} {xs : List Value} (h : w.ownsRow B T S v n xs) (hk : ∀ g, v.ownBlock = some g → w'.heap[g]? = w.heap[g]?) : w'.ownsRow B T S v n xs := by
  obtain ⟨h1, h⟩ := h
  refine ⟨h1, ?_⟩
  rcases h with h | ⟨g, cap, cur, hv, hB, hg, h2⟩
  · exact .inl h
  · exact .inr ⟨g, cap, cur, hv, hB, (hk g (by rw [hv]; rfl)).trans hg, h2⟩
theorem ArV.rest {w : World} {pv : Value} {o : Option Nat} {room : Nat} {zs : List Cel} (h : ArV w pv o room zs) : ∃ es, (∀ p ∈ es, w.heap[p.1]? = some p.2) ∧ Rest es ⟨pv, o, room, zs⟩ := by
  rcases h with ⟨rfl, rfl, rfl, rfl⟩ | ⟨b, rfl, h⟩
  · refine ⟨[], (fun p hp => by cases hp), fun g => ⟨fun k => ?_, (fun ⟨p, hp, _⟩ => by cases hp)⟩, fun w _ => ArV.nil w⟩
    rcases k with k | k <;> cases k
  · have hl := h.lt
    obtain ⟨h1, h2, h3, h4, v, hv, hown, ho⟩ := h
    cases o with
    | none =>
      refine ⟨[(b, .cells #[.int .i64 (room : Int), v] 100)], fun p hp => by rw [List.mem_singleton.1 hp]; exact hv, fun g => ⟨fun k => ?_, fun ⟨p, hp, e⟩ => ?_⟩, fun w' hw => .inr ⟨b, rfl, h1, h2, h3, h4, v, hw (b, .cells #[.int .i64 (room : Int), v] 100) (List.mem_singleton.2 rfl), ownsRow_at hown (fun g hg => by rw [ho] at hg; cases hg), ho⟩⟩
      · rcases k with k | k
        · injection k with k; injection k with k; injection k with k
          exact ⟨_, List.mem_singleton.2 rfl, k⟩
        · cases k
      · rw [List.mem_singleton.1 hp] at e
        exact .inl (by rw [← e])
    | some g0 =>
      obtain ⟨hg0, hne⟩ := hl.2 g0 rfl
      obtain ⟨ob, hob⟩ : ∃ ob, w.heap[g0]? = some ob := ⟨_, Array.getElem?_eq_getElem hg0⟩
      refine ⟨[(b, .cells #[.int .i64 (room : Int), v] 100), (g0, ob)], fun p hp => ?_, fun g => ⟨fun k => ?_, fun ⟨p, hp, e⟩ => ?_⟩, fun w' hw => .inr ⟨b, rfl, h1, h2, h3, h4, v, hw (b, .cells #[.int .i64 (room : Int), v] 100) (by simp), ownsRow_at hown (fun g hg => by rw [ho] at hg; injection hg with hg; subst hg; rw [hob]; exact hw (g0, ob) (by simp)), ho⟩⟩
      · simp only [List.mem_cons, List.not_mem_nil, or_false] at hp
        rcases hp with rfl | rfl
        · exact hv
        · exact hob
      · rcases k with k | k
        · injection k with k; injection k with k; injection k with k
          exact ⟨_, List.mem_cons_self .., k⟩
        · injection k with k
          exact ⟨(g0, ob), by simp, k⟩
      · simp only [List.mem_cons, List.not_mem_nil, or_false] at hp
        rcases hp with rfl | rfl
        · exact .inl (by rw [← e])
        · exact .inr (by rw [← e])
/-- What was worked at is laid into boxes, another one is taken out of its. -/
theorem PS.switch {w0 w : World} {pv : Value} {o : Option Nat} {room : Nat} {zs : List Cel} {a : Arn} {es bs : List (Nat × Obj)} (h : PS w0 w pv o room zs (.slice none 0 0) [] (es ++ bs)) (hr : Rest es a) (h0 : ∀ p ∈ es, w0.heap.size ≤ p.1) (hd : ∀ p ∈ es, ∀ q ∈ bs, q.1 ≠ p.1) :
    ∃ es', Rest es' ⟨pv, o, room, zs⟩ ∧ PS w0 w a.pv a.o a.room a.zs (.slice none 0 0) [] (es' ++ bs) ∧ (∀ p ∈ es', w0.heap.size ≤ p.1) ∧ (∀ p ∈ es', ∀ q ∈ es ++ bs, q.1 ≠ p.1) := by
  obtain ⟨⟨k1, k2, k3⟩, _, k5⟩ := h
  obtain ⟨es', h1, h2⟩ := k1.rest
  have hv : ∀ p ∈ es', VF pv o p.1 := fun p hp => (h2.1 p.1).2 ⟨p, hp, rfl⟩
  have hdis : ∀ p ∈ es', ∀ q ∈ es ++ bs, q.1 ≠ p.1 := fun p hp q hq e => (k5 q hq).2 (e ▸ hv p hp)
  refine ⟨es', h2, ⟨⟨hr.2 w fun p hp => (k5 p (List.mem_append_left _ hp)).1, k2, fun g hg => ?_⟩, QS.nil _ _ _, fun q hq => ?_⟩, fun p hp => k3 _ (hv p hp), hdis⟩
  · obtain ⟨p, hp, e⟩ := (hr.1 g).1 hg
    exact e ▸ h0 p hp
  · rcases List.mem_append.1 hq with hq | hq
    · refine ⟨h1 q hq, fun k => ?_⟩
      obtain ⟨p, hp, e⟩ := (hr.1 q.1).1 k
      exact hdis q hq p (List.mem_append_left _ hp) e
    · refine ⟨(k5 q (List.mem_append_right _ hq)).1, fun k => ?_⟩
      obtain ⟨p, hp, e⟩ := (hr.1 q.1).1 k
      exact hd p hp q hq e.symm
end Go.Proofs.Ytpmimngngehmlaa.F
