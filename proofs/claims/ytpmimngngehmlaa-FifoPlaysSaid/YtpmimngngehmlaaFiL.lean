/-
  Lists of ints in boxes: how they read, how one loses its first. Not a statement of the seat.
-/
import Derived.Test.YtpmimngngehmlaaFi
namespace Go.Proofs.Ytpmimngngehmlaa.F
open Go.ChangeShapes Go.WideShapes Go.ChangeAt Go.RowKit Base
/-- The slice v holds xs, in a box; or there is none. -/
def LI (bs : List (Nat × Obj)) (v : Value) (xs : List Int) : Prop :=
  (xs = [] ∧ ∃ p c, v = .slice p 0 c ∧ (p = none → c = 0)) ∨ ∃ q ∈ bs, ∃ cur off c, q.2 = .cells cur 3 ∧ v = .slice (some ⟨q.1, off, none⟩) xs.length c ∧ xs.length ≤ c ∧ ∀ k, k < xs.length → cur[off + k]? = some (.int .i64 (xs.getD k 0))
theorem LI.nil (bs : List (Nat × Obj)) : LI bs (.slice none 0 0) [] := .inl ⟨rfl, none, 0, rfl, fun _ => rfl⟩
theorem LI.mono {bs bs' : List (Nat × Obj)} {v : Value} {xs : List Int} (h : LI bs v xs) (hm : ∀ p ∈ bs, p ∈ bs') : LI bs' v xs := by
  rcases h with h | ⟨q, hq, h⟩
  · exact .inl h
  · exact .inr ⟨q, hm q hq, h⟩
theorem LI.form {bs : List (Nat × Obj)} {v : Value} {xs : List Int} (h : LI bs v xs) : ∃ p c, v = .slice p xs.length c ∧ (p = none → c = 0) ∧ xs.length ≤ c := by
  rcases h with ⟨rfl, p, c, h, hp⟩ | ⟨q, hq, cur, off, c, _, h, hc, _⟩
  · exact ⟨p, c, h, hp, Nat.zero_le _⟩
  · exact ⟨_, c, h, (fun e => by cases e), hc⟩
theorem LI.cap0 {bs : List (Nat × Obj)} {v : Value} {xs : List Int} (h : LI bs v xs) : ∀ n c, v = .slice none n c → c = 0 := fun n c e => by
  obtain ⟨p, c', hv, hp, _⟩ := h.form
  rw [hv] at e
  injection e with e1 _ e3
  rw [← e3]
  exact hp e1
theorem LI.ints {bs : List (Nat × Obj)} {v : Value} {xs : List Int} {w : World} (h : LI bs v xs) (hw : ∀ p ∈ bs, w.heap[p.1]? = some p.2) (hl : xs.length ≤ 9223372036854775807) : Lst.Ints 0 w v xs := by
  rcases h with ⟨rfl, p, c, h, _⟩ | ⟨q, hq, cur, off, c, hq2, h, hc, hk⟩
  · exact .inl ⟨⟨p, c, h⟩, rfl⟩
  · refine .inr ⟨q.1, off, c, h, Nat.zero_le _, heap_lt (hw q hq), hl, fun k hk' => ?_⟩
    have h1 := hw q hq
    rw [hq2] at h1
    simp [World.cell?, h1, hk k hk']
/-- Its first, and a list of the others. -/
theorem LI.tail {bs : List (Nat × Obj)} {p : Option Addr} {n c : Nat} {x : Int} {xs : List Int} (h : LI bs (.slice p n c) (x :: xs)) (hl : xs.length + 1 ≤ 9223372036854775807) : ∃ g off, p = some ⟨g, off, none⟩ ∧ (∀ w : World, (∀ p ∈ bs, w.heap[p.1]? = some p.2) → g < w.heap.size ∧ w.cell? ⟨g, off, none⟩ = some (.int .i64 x)) ∧
    ∃ p' c', (∀ w, (Instr.sliceAt 61 (.slice p n c) (some (.int .i64 1)) none none).run Try.prog w = .ok (.slice p' xs.length c') w) ∧ LI bs (.slice p' xs.length c') xs := by
  rcases h with ⟨h, _⟩ | ⟨q, hq, cur, off, c', hq2, hv, hc, hk⟩
  · cases h
  · injection hv with e1 e2 e3
    subst e1 e2 e3
    rw [List.length_cons] at hc
    refine ⟨q.1, off, rfl, fun w hw => ⟨heap_lt (hw q hq), ?_⟩, ?_⟩
    · have h1 := hw q hq
      rw [hq2] at h1
      have := hk 0 (by simp)
      rw [Nat.add_zero] at this
      simp [World.cell?, h1, this]
    · have hrun : ∀ w, (Instr.sliceAt 61 (.slice (some ⟨q.1, off, none⟩) (x :: xs).length c) (some (.int .i64 ((1 : Nat) : Int))) none none).run Try.prog w = .ok (sliced (some ⟨q.1, off, none⟩) 1 (x :: xs).length c 1) w := fun w => by
        rw [run_sliceAt_slice _ _ _ _ _ _ Lst.elemInts, run_slice_l w _ _ _ _ Lst.elemInts _ _ (by simp) (by simp; omega), Lst.elemInts', Lst.sizeInt]; rfl
      by_cases h1 : c = 1
      · subst h1
        have h0 : xs = [] := List.length_eq_zero_iff.1 (by omega)
        subst h0
        refine ⟨some ⟨q.1, off, none⟩, 0, fun w => (hrun w).trans (by simp [sliced]), .inl ⟨rfl, _, _, rfl, fun e => by cases e⟩⟩
      · refine ⟨some ⟨q.1, off + 1, none⟩, c - 1, fun w => (hrun w).trans (by simp [sliced, h1, Addr.add]), .inr ⟨q, hq, cur, off + 1, c - 1, hq2, rfl, by omega, fun k hk' => ?_⟩⟩
        have := hk (k + 1) (by simpa using hk')
        rw [show off + 1 + k = off + (k + 1) by omega, this]
        simp
/-- A list that a call has made is kept. -/
theorem FI.list {w0 wa w : World} {qb qg sb : Nat} {so : Option Nat} {rq rs : Nat} {xq xs : List Int} {bs : List (Nat × Obj)} {v : Value} {l : List Int} (h : FI w0 wa qb qg sb so rq rs xq xs bs) (ho : Lst.OwnI wa.heap.size w v l) (hb : Below wa.heap.size wa w) :
    ∃ nb, Hid (FI w0 w qb qg sb so rq rs xq xs (nb ++ bs)) ∧ Hid (LI nb v l) := by
  rcases ho.2 with ⟨hv, h0⟩ | ⟨g, cap, cur, hv, hB, hg, hc, _, hsz, htk⟩
  · exact ⟨[], Lib.hid (h.below hb), Lib.hid (.inl ⟨List.length_eq_zero_iff.1 h0, none, 0, hv, fun _ => rfl⟩)⟩
  · refine ⟨[(g, .cells cur 3)], Lib.hid (h.keepNew hb hg hB), Lib.hid (.inr ⟨(g, .cells cur 3), List.mem_singleton.2 rfl, cur, 0, cap, rfl, hv, hc, fun k hk => ?_⟩)⟩
    have : (cur.toList.take (l.length * 1))[k]? = (l.map (Value.int .i64))[k]? := by rw [htk]
    rw [List.getElem?_take, if_pos (by omega), Array.getElem?_toList, List.getElem?_map, List.getElem?_eq_getElem hk] at this
    rw [Nat.zero_add, this, List.getD_eq_getElem?_getD, List.getElem?_eq_getElem hk]
    rfl
end Go.Proofs.Ytpmimngngehmlaa.F
