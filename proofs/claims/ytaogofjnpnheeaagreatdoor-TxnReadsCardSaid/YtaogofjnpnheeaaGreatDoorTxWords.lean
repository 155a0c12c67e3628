/-
  Plain facts on words with marks between them: which they are is seen from the text; a walk over its bytes. Not a statement of the seat.
-/
import Derived.Test.YtaogofjnpnheeaaGreatDoorRows
namespace Go.Proofs.YtaogofjnpnheeaaGreatDoor.Wd
/-- Words, each with a mark behind it. -/
def ended (ws : List (List UInt8)) : List UInt8 := ws.flatMap (fun w => w ++ [32])
/-- A word bears no mark. -/
def Plain (w : List UInt8) : Prop := ∀ x ∈ w, x ≠ 32
theorem part_inj : ∀ {h h' r r' : List UInt8}, Plain h → Plain h' → h ++ 32 :: r = h' ++ 32 :: r' → h = h' ∧ r = r'
  | [], [], r, r', _, _, e => by simpa using e
  | [], x :: h', r, r', _, p, e => by
    simp only [List.nil_append, List.cons_append, List.cons.injEq] at e
    exact absurd e.1.symm (p x List.mem_cons_self)
  | x :: h, [], r, r', p, _, e => by
    simp only [List.nil_append, List.cons_append, List.cons.injEq] at e
    exact absurd e.1 (p x List.mem_cons_self)
  | x :: h, y :: h', r, r', p, p', e => by
    simp only [List.cons_append, List.cons.injEq] at e
    obtain ⟨rfl, e⟩ := e
    obtain ⟨h1, h2⟩ := part_inj (fun z hz => p z (List.mem_cons_of_mem _ hz)) (fun z hz => p' z (List.mem_cons_of_mem _ hz)) e
    exact ⟨by rw [h1], h2⟩
theorem ended_cons (w : List UInt8) (ws : List (List UInt8)) : ended (w :: ws) = w ++ 32 :: ended ws := by simp [ended]
theorem ended_inj : ∀ {ws ws' : List (List UInt8)}, (∀ w ∈ ws, Plain w) → (∀ w ∈ ws', Plain w) → ended ws = ended ws' → ws = ws'
  | [], [], _, _, _ => rfl
  | [], w :: ws, _, _, e => by rw [ended_cons] at e; simp [ended] at e
  | w :: ws, [], _, _, e => by rw [ended_cons] at e; simp [ended] at e
  | w :: ws, v :: vs, p, p', e => by
    rw [ended_cons, ended_cons] at e
    obtain ⟨h1, h2⟩ := part_inj (p w List.mem_cons_self) (p' v List.mem_cons_self) e
    rw [h1, ended_inj (fun z hz => p z (List.mem_cons_of_mem _ hz)) (fun z hz => p' z (List.mem_cons_of_mem _ hz)) h2]
/-- Joined by marks, one more behind it: each with a mark. -/
theorem joined_ended (w : List UInt8) : ∀ ws : List (List UInt8), (w ++ ws.flatMap (fun v => 32 :: v)) ++ [32] = ended (w :: ws)
  | [] => by simp [ended]
  | v :: ws => by
    have := joined_ended v ws
    rw [ended_cons w, ← this]
    simp
/-- Where the walk stands: j words are done, of the next one part is read. -/
def At (ws : List (List UInt8)) (i j : Nat) (part rest : List UInt8) : Prop := j < ws.length ∧ ws.getD j [] = part ++ rest ∧ i = (ended (ws.take j)).length + part.length
theorem take_more {ws : List (List UInt8)} {j : Nat} (h : j < ws.length) : ws.take (j + 1) = ws.take j ++ [ws.getD j []] := by
  rw [List.take_succ_eq_append_getElem h, List.getD_eq_getElem?_getD, List.getElem?_eq_getElem h]; rfl
theorem split_at {ws : List (List UInt8)} {j : Nat} (h : j < ws.length) : ended ws = ended (ws.take j) ++ (ws.getD j [] ++ 32 :: ended (ws.drop (j + 1))) := by
  have e : ws = ws.take j ++ (ws.getD j [] :: ws.drop (j + 1)) := by
    conv => lhs; rw [← List.take_append_drop j ws, List.drop_eq_getElem_cons h]
    rw [List.getD_eq_getElem?_getD, List.getElem?_eq_getElem h]; rfl
  conv => lhs; rw [e]
  unfold ended
  rw [List.flatMap_append, List.flatMap_cons]
  simp
/-- The byte at hand. -/
theorem At.byte {ws : List (List UInt8)} {i j : Nat} {part rest : List UInt8} (h : At ws i j part rest) : (ended ws)[i]? = some (rest.headD 32) := by
  obtain ⟨h1, h2, h3⟩ := h
  rw [split_at h1, h2, h3, List.getElem?_append_right (by omega), show (ended (ws.take j)).length + part.length - (ended (ws.take j)).length = part.length by omega, List.append_assoc, List.getElem?_append_right (by omega), Nat.sub_self]
  cases rest <;> simp
theorem At.more {ws : List (List UInt8)} {i j : Nat} {part rest : List UInt8} {x : UInt8} (h : At ws i j part (x :: rest)) : At ws (i + 1) j (part ++ [x]) rest := by
  obtain ⟨h1, h2, h3⟩ := h
  exact ⟨h1, by rw [h2]; simp, by rw [h3]; simp; omega⟩
theorem At.done {ws : List (List UInt8)} {i j : Nat} {part : List UInt8} (h : At ws i j part []) (hj : j + 1 < ws.length) : At ws (i + 1) (j + 1) [] (ws.getD (j + 1) []) := by
  obtain ⟨h1, h2, h3⟩ := h
  refine ⟨hj, by simp, ?_⟩
  rw [take_more h1, h3, h2]
  unfold ended
  simp [List.flatMap_append]
  omega
theorem At.last {ws : List (List UInt8)} {i j : Nat} {part : List UInt8} (h : At ws i j part []) (hj : j + 1 = ws.length) : i + 1 = (ended ws).length := by
  obtain ⟨h1, h2, h3⟩ := h
  rw [split_at h1, h2, h3, List.drop_eq_nil_of_le (by omega)]
  simp [ended]
  omega
theorem At.start {w : List UInt8} {ws : List (List UInt8)} : At (w :: ws) 0 0 [] w := ⟨by simp, by simp, by simp [ended]⟩
theorem At.lt {ws : List (List UInt8)} {i j : Nat} {part rest : List UInt8} (h : At ws i j part rest) : i < (ended ws).length := by
  have := h.byte
  exact (List.getElem?_eq_some_iff.1 this).1
end Go.Proofs.YtaogofjnpnheeaaGreatDoor.Wd
