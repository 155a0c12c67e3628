/-
  Contracts of the document's own answers on numbers: Words, Add, Mul. Not a statement of the seat.
-/
import Derived.Test.YtjknnbeemcpppaaDoorNuLen
namespace Go.Proofs.YtjknnbeemcpppaaDoor.Nu
open Go.ChangeShapes Go.WideShapes Go.ChangeAt Go.RowKit Go.Lib Lst
/-- The texts of the first k, with blanks between. -/
def wordsK (xs : List Int) : Nat → List UInt8
  | 0 => []
  | k + 1 => (if 0 < k then wordsK xs k ++ [32] else wordsK xs k) ++ itoa (xs.getD k 0)
theorem wordsK_len {xs : List Int} (hr : ∀ x ∈ xs, -9223372036854775808 ≤ x ∧ x ≤ 9223372036854775807) : ∀ k, k ≤ xs.length → (wordsK xs k).length ≤ 21 * k
  | 0, _ => by simp [wordsK]
  | k + 1, h => by
    have ih := wordsK_len hr k (by omega)
    have hx : xs.getD k 0 ∈ xs := by
      rw [List.getD_eq_getElem?_getD, List.getElem?_eq_getElem (by omega)]
      exact List.getElem_mem _
    have hl := itoa_len (hr _ hx).1 (hr _ hx).2
    unfold wordsK
    split <;> simp only [List.length_append, List.length_cons, List.length_nil] <;> omega
/-- Does a number fit into an int? -/
def fits (x : Int) : Bool := decide (-9223372036854775808 ≤ x ∧ x ≤ 9223372036854775807)
end Go.Proofs.YtjknnbeemcpppaaDoor.Nu
