/-
  Walks: what lives asks, each answer. Not a statement of the seat.
-/
import Derived.Test.YtjknnbeemcpppaaDoorWkT
import Derived.Test.YtjknnbeemcpppaaDoorWkU
import Derived.Test.YtjknnbeemcpppaaDoorWk2
import Derived.Test.YtjknnbeemcpppaaDoorWk3
import Derived.Test.YtjknnbeemcpppaaDoorWk6
import Derived.Test.YtjknnbeemcpppaaDoorWk7
namespace Go.Proofs.YtjknnbeemcpppaaDoor.Wk
open Go.ChangeShapes Go.WideShapes Go.ChangeAt Go.RowKit Base Nu Pk F
abbrev eA : E := (1, 2, 1, 5)
abbrev eB : E := (2, 1, 3, 4)
/-- A list of edges that lies, with its form. -/
def EL (w : World) (v : Value) (l : List E) : Prop := Eds w v l ∧ Capd v
theorem EL.below {w w' : World} {v : Value} {l : List E} (h : EL w v l) (hb : Below w.heap.size w w') : EL w' v l := ⟨h.1.below hb, h.2⟩
theorem el_nil (w : World) : EL w (.slice none 0 0) [] := ⟨.inl ⟨⟨_, _, rfl⟩, rfl⟩, fun p n c e => by injection e with e1 e2 e3; subst e1 e2 e3; exact ⟨Nat.le_refl _, fun _ => rfl⟩⟩
theorem el_lit {w : World} {g n : Nat} {cs : Array Value} {l : List E} (h : w.heap[g]? = some (.cells cs 32)) (h1 : cs.toList = l.flatMap encE) (hn : l.length = n) (hl : n ≤ 1000) : EL w (.slice (some ⟨g, 0, none⟩) n n) l := by
  subst hn
  have ho : OwnE g w (.slice (some ⟨g, 0, none⟩) l.length l.length) l := by
    refine ⟨flat_len l, .inr ⟨g, l.length, cs, rfl, Nat.le_refl _, h, Nat.le_refl _, by simp only [maxLen]; omega, ?_, ?_⟩⟩
    · rw [← Array.length_toList, h1, flat_len]
    · rw [h1, List.take_of_length_le (Nat.le_of_eq (flat_len l))]
  exact ⟨ho.eds (by omega), ownE_capd ho⟩
theorem okL_of {l : List E} (h : ∀ x ∈ l, OkE x) : OkL l := fun i => by
  rw [List.getD_eq_getElem?_getD]
  by_cases hi : i < l.length
  · rw [List.getElem?_eq_getElem hi]
    exact h _ (List.getElem_mem hi)
  · rw [List.getElem?_eq_none (by omega)]
    exact ⟨⟨by decide, by decide⟩, ⟨by decide, by decide⟩, ⟨by decide, by decide⟩, ⟨by decide, by decide⟩⟩
theorem inE_of {l : List E} (h : OkL l) : InE l := h
section
variable {w : World} {v u : Value}
theorem k_closed {l : List E} {r : Bool} (h : EL w v l) (hl : l.length ≤ 1000) (e : closedL l = r) : Calls Tryd.prog 6 #[v] w (BoolP r w) := by rw [← e]; exact closed_any w h.1 hl
theorem k_simple {l : List E} {r : Bool} (h : EL w v l) (hl : l.length ≤ 1000) (ho : ∀ x ∈ l, OkE x) (e : simpleL l = r) : Calls Tryd.prog 8 #[v] w (BoolP r w) := by rw [← e]; exact simple_any w h.1 rfl hl (inE_of (okL_of ho))
theorem k_mask {l : List E} {r : Int} (h : EL w v l) (hl : l.length ≤ 1000) (e : maskL l = r) : Calls Tryd.prog 10 #[v] w (NumP r w) := by rw [← e]; exact mask_any w h.1 rfl hl
theorem k_less {l m : List E} {r : Bool} (h : EL w v l) (h2 : EL w u m) (hl : l.length ≤ 1000) (hm : m.length ≤ 1000) (e : lessW l m = r) : Calls Tryd.prog 12 #[v, u] w (BoolP r w) := by rw [← e]; exact wless_any w h.1 h2.1 hl hm
theorem k_same {l m : List E} {r : Bool} (h : EL w v l) (h2 : EL w u m) (e : decide (l = m) = r) : Calls Tryd.prog 14 #[v, u] w (BoolP r w) := by rw [← e]; exact same_wk w h.1 h2.1
/-- What a call that makes a list leaves. -/
def ELP (l : List E) (w : World) (e : Ending) (w' : World) : Prop := ∃ p n c, n = l.length ∧ e = .returned (.slice p n c) ∧ EL w' (.slice p n c) l ∧ Below w.heap.size w w'
theorem k_turn {l m : List E} (h : EL w v l) (hl : l.length ≤ 1000) (e : turnL ltE l = m) : Calls Tryd.prog 16 #[v] w (ELP m w) := by
  refine (turn_any w h.1 rfl hl h.2).mono ?_
  rintro en w' ⟨v', rfl, ho, hb⟩
  rw [e] at ho
  obtain ⟨p, c, rfl⟩ := ownE_form ho
  exact ⟨p, _, c, rfl, rfl, ⟨ho.eds (by rw [← e, turn_len totL]; omega), ownE_capd ho⟩, hb⟩
theorem k_text {l : List E} {t : List UInt8} (h : EL w v l) (hl : l.length ≤ 1000) (ho : ∀ x ∈ l, OkE x) (hp : Pow w) (e : textL l = t) : Calls Tryd.prog 18 #[v] w (TextPost t w) := by rw [← e]; exact text_wk w h.1 rfl hl (okL_of ho) hp
end
example : turnL ltE [eB, eA] = [eA, eB] := by decide +kernel
example : textL [eA, eB] = [49, 32, 119, 119, 53, 32, 50, 32, 114, 119, 52, 32, 49] := by decide +kernel
example : textL [(0, 0, 9, 0)] = [48, 32, 120, 48, 32, 48] := by decide +kernel
example : closedL [eB, eA] = true := by decide +kernel
example : simpleL [eB, eA] = true := by decide +kernel
example : maskL [eB, eA] = 10 := by decide +kernel
example : lessW [eA, eB] [eB, eA] = true := by decide +kernel
end Go.Proofs.YtjknnbeemcpppaaDoor.Wk
