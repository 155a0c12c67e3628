/-
  Contract of the builder's without. Not a statement of the seat.
-/
import Derived.Test.YtpbkclciipmonaaPmFirst
namespace Go.Proofs.Ytpbkclciipmonaa.F
open Go.ChangeShapes Go.WideShapes Go.ChangeAt Go.RowKit Base
/-- Is a key in a tree, where it would be looked for? -/
def Tre.has (key : Int) : Tre → Bool
  | .nil => false
  | .node l k _ r => if key < k then l.has key else if k < key then r.has key else true
theorem Tr.oks {zs : List Cel} (h : ∀ x ∈ zs, x.ok) : ∀ {t : Tre} {i : Int}, Tr zs t i → ∀ p ∈ t.list, p.ok
  | .nil, _, _ => fun p hp => by simp [Tre.list] at hp
  | .node l k v r, i, ht => by
    obtain ⟨_, a, b, hc, hl, hr⟩ := ht
    have hco := celAt_ok h i
    rw [hc] at hco
    intro p hp
    simp only [Tre.list, List.mem_append, List.mem_cons] at hp
    rcases hp with hp | rfl | hp
    · exact Tr.oks h hl p hp
    · unfold Cel.ok at hco; unfold Pai.ok; simp only at hco ⊢; omega
    · exact Tr.oks h hr p hp
end Go.Proofs.Ytpbkclciipmonaa.F
