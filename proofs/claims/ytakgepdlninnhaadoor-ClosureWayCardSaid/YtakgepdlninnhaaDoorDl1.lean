/-
  Lists of numbers in at most one block: where one stands. Not a statement of the seat.
-/
import Derived.Test.YtakgepdlninnhaaDoorHead4
import Derived.Test.YtakgepdlninnhaaDoorHead6
import Derived.Deep.DeepHandedRow
import Derived.Deep.RegionHeld3
namespace Go.Proofs.YtakgepdlninnhaaDoor.Dl
open Go.ChangeShapes Go.WideShapes Go.ChangeAt Go.RowKit Base Ro
def valsU (xs : List Nat) : List Value := xs.map fun (x : Nat) => .int .u64 (x : Int)
theorem valsU_len (xs : List Nat) : (valsU xs).length = xs.length := by simp [valsU]
/-- What holds a list's numbers: no block, or one. -/
def LsAt (w : World) (B : Nat) (V : Value) (xs : List Nat) : Prop :=
  (xs = [] ∧ w.ownsRow B 72 1 V 0 []) ∨
  (xs ≠ [] ∧ ∃ g cap, w.ownsRow B 72 1 V 1 [.slice (some ⟨g, 0, none⟩) xs.length cap] ∧ w.ownsRow B 86 1 (.slice (some ⟨g, 0, none⟩) xs.length cap) xs.length (valsU xs))
/-- Numbers that rise, of 64 bits, few of them. -/
def GoodX (xs : List Nat) : Prop := Up xs ∧ xs.length < 500 ∧ ∀ x ∈ xs, x < 18446744073709551616
theorem cells_of {w : World} {B g n cap : Nat} {e : TypeId} {vs : List Value} (h : w.ownsRow B e 1 (.slice (some ⟨g, 0, none⟩) n cap) n vs) (hn : vs.length = n) (k : Nat) (hk : k < n) : w.cell? ⟨g, k, none⟩ = vs[k]? := by
  have h1 := h.cells (g := g) rfl k (vs[k]'(by omega)) (List.getElem?_eq_getElem (by omega))
  rw [add_plain, Nat.zero_add] at h1
  rw [h1, List.getElem?_eq_getElem (by omega)]
theorem num_cell {w : World} {B g cap : Nat} {xs : List Nat} (h : w.ownsRow B 86 1 (.slice (some ⟨g, 0, none⟩) xs.length cap) xs.length (valsU xs)) (k : Nat) (hk : k < xs.length) : w.cell? ⟨g, k, none⟩ = some (.int .u64 (xs.getD k 0 : Nat)) := by
  rw [cells_of h (valsU_len xs) k hk]
  simp [valsU, List.getD_eq_getElem?_getD, hk]
/-- Where a number stands, or would. -/
def posU : List Nat → Nat → Nat
  | [], _ => 0
  | y :: l, x => if y < x then posU l x + 1 else 0
theorem posU_le : ∀ (l : List Nat) (x : Nat), posU l x ≤ l.length
  | [], _ => Nat.le_refl _
  | y :: l, x => by
    unfold posU
    split
    · have := posU_le l x; simp; omega
    · exact Nat.zero_le _
theorem posU_lt : ∀ (l : List Nat) (x j : Nat), j < posU l x → l.getD j 0 < x
  | [], _, _, h => absurd h (Nat.not_lt_zero _)
  | y :: l, x, j, h => by
    unfold posU at h
    by_cases hy : y < x
    · rw [if_pos hy] at h
      cases j with
      | zero => simpa using hy
      | succ j => simpa using posU_lt l x j (by omega)
    · rw [if_neg hy] at h; exact absurd h (Nat.not_lt_zero _)
theorem posU_ge : ∀ (l : List Nat) (x : Nat), posU l x < l.length → x ≤ l.getD (posU l x) 0
  | [], _, h => absurd h (Nat.not_lt_zero _)
  | y :: l, x, h => by
    unfold posU at h ⊢
    by_cases hy : y < x
    · rw [if_pos hy] at h ⊢
      simpa using posU_ge l x (by simpa using h)
    · rw [if_neg hy]; simpa using hy
theorem posU_fst {l : List Nat} (hu : Up l) (x : Nat) : Fst (geP l x) l.length (posU l x) := by
  refine ⟨posU_le l x, fun j hj => ?_, fun j hj hl => ?_⟩
  · have := posU_lt l x j hj
    unfold geP; rw [decide_eq_false_iff_not]; omega
  · have h1 := posU_ge l x (by omega)
    unfold geP; rw [decide_eq_true_eq]
    rcases Nat.lt_or_eq_of_le hj with h2 | h2
    · have := hu _ _ h2 hl; omega
    · rw [← h2]; exact h1
/-- What seek tells. -/
def seekV (xs : List Nat) (x : Nat) : Int × Int × Bool :=
  if xs = [] then (0, 0, false) else if xs.getD (xs.length - 1) 0 < x then (1, 0, false) else (0, (posU xs x : Int), decide (posU xs x < xs.length ∧ xs.getD (posU xs x) 0 = x))
def SeekP (xs : List Nat) (x : Nat) (w : World) (e : Ending) (w' : World) : Prop := e = .returned (.tuple #[.int .i64 (seekV xs x).1, .int .i64 (seekV xs x).2.1, .bool (seekV xs x).2.2]) ∧ Below w.heap.size w w'
theorem LsAt.below {w w' : World} {B : Nat} {V : Value} {xs : List Nat} (h : LsAt w B V xs) (hb : Below w.heap.size w w') : LsAt w' B V xs := by
  have key : ∀ (e : TypeId) (v : Value) (n : Nat) (vs : List Value), w.ownsRow B e 1 v n vs → w'.ownsRow B e 1 v n vs := fun e v n vs h => by
    refine ⟨h.1, ?_⟩
    rcases h.2 with h2 | ⟨g, cap, cur, h1, h2, h3, h4⟩
    · exact .inl h2
    · exact .inr ⟨g, cap, cur, h1, h2, (hb.block g (heap_lt h3)).trans h3, h4⟩
  rcases h with ⟨h1, h2⟩ | ⟨h1, g, cap, h2, h3⟩
  · exact .inl ⟨h1, key _ _ _ _ h2⟩
  · exact .inr ⟨h1, g, cap, key _ _ _ _ h2, key _ _ _ _ h3⟩
theorem LsAt.form {w : World} {B : Nat} {V : Value} {xs : List Nat} (h : LsAt w B V xs) : ∃ p c, V = .slice p (if xs = [] then 0 else 1) c := by
  rcases h with ⟨h1, h2⟩ | ⟨h1, g, cap, h2, h3⟩
  · rw [if_pos h1]
    rcases h2.2 with ⟨rfl, _⟩ | ⟨g, c, cur, rfl, _⟩
    · exact ⟨_, _, rfl⟩
    · exact ⟨_, _, rfl⟩
  · rw [if_neg h1]
    rcases h2.2 with ⟨_, h4⟩ | ⟨g, c, cur, rfl, _⟩
    · omega
    · exact ⟨_, _, rfl⟩
end Go.Proofs.YtakgepdlninnhaaDoor.Dl
