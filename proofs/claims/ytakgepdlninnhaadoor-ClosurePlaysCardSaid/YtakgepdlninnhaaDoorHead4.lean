/-
  Contracts of small functions, several texts laid into one. Not a statement of the seat.
-/
import Derived.Test.YtakgepdlninnhaaDoorHead1
import Derived.Deep.Cut
import Derived.Deep.CutRange
import Derived.Deep.DeepCutAuto
import Derived.Shelf.Abstract
import Derived.WalkKit
namespace Go.Proofs.YtakgepdlninnhaaDoor.Ro
open Go.ChangeShapes Go.WideShapes Go.ChangeAt Go.RowKit Base
/-- Up to r a test fails, from r on it holds. -/
def Fst (p : Nat → Bool) (n r : Nat) : Prop := r ≤ n ∧ (∀ j, j < r → p j = false) ∧ ∀ j, r ≤ j → j < n → p j = true
theorem Fst.is {p : Nat → Bool} {n r r' : Nat} (h : Fst p n r) (h' : Fst p n r') : r = r' := by
  rcases Nat.lt_trichotomy r r' with h1 | h1 | h1
  · have a := h'.2.1 r h1
    rw [h.2.2 r (Nat.le_refl _) (Nat.lt_of_lt_of_le h1 h'.1)] at a
    cases a
  · exact h1
  · have a := h.2.1 r' h1
    rw [h'.2.2 r' (Nat.le_refl _) (Nat.lt_of_lt_of_le h1 h.1)] at a
    cases a
/-- A search under way. -/
def Mid (p : Nat → Bool) (n lo hi : Nat) : Prop := lo ≤ hi ∧ hi ≤ n ∧ (∀ j, j < lo → p j = false) ∧ ∀ j, hi ≤ j → j < n → p j = true
theorem Mid.up {p : Nat → Bool} {n lo hi m : Nat} (h : Mid p n lo hi) (hmo : ∀ i j, i ≤ j → j < n → p i = true → p j = true) (hm : m < hi) (hp : p m = false) : Mid p n (m + 1) hi := by
  refine ⟨hm, h.2.1, fun j hj => ?_, h.2.2.2⟩
  cases hq : p j with
  | false => rfl
  | true =>
    have := hmo j m (by omega) (Nat.lt_of_lt_of_le hm h.2.1) hq
    rw [hp] at this; cases this
theorem Mid.down {p : Nat → Bool} {n lo hi m : Nat} (h : Mid p n lo hi) (hmo : ∀ i j, i ≤ j → j < n → p i = true → p j = true) (hl : lo ≤ m) (hm : m < hi) (hp : p m = true) : Mid p n lo m :=
  ⟨hl, Nat.le_of_lt (Nat.lt_of_lt_of_le hm h.2.1), h.2.2.1, fun j hj hn => hmo m j hj hn hp⟩
def IntDrew (x : Int) (w : World) (e : Ending) (w' : World) : Prop := e = .returned (.int .i64 x) ∧ ∃ k, w' = w.drewN k
end Go.Proofs.YtakgepdlninnhaaDoor.Ro
namespace Go.Proofs.YtakgepdlninnhaaDoor.Ro
open Go.ChangeShapes Go.WideShapes Go.ChangeAt Go.RowKit Base
def cmpI (x y : Int) : Int := if x < y then -1 else if y < x then 1 else 0
/-- Numbers that rise. -/
def Up (xs : List Nat) : Prop := ∀ i j, i < j → j < xs.length → xs.getD i 0 < xs.getD j 0
def geP (xs : List Nat) (x : Nat) (j : Nat) : Bool := decide (x ≤ xs.getD j 0)
theorem geP_mono {xs : List Nat} (hu : Up xs) (x i j : Nat) (h : i ≤ j) (hj : j < xs.length) (hp : geP xs x i = true) : geP xs x j = true := by
  unfold geP at *
  rw [decide_eq_true_eq] at *
  rcases Nat.lt_or_eq_of_le h with h1 | h1
  · have := hu i j h1 hj; omega
  · subst h1; exact hp
end Go.Proofs.YtakgepdlninnhaaDoor.Ro
namespace Go.Proofs.YtakgepdlninnhaaDoor.Ro
open Go.ChangeShapes Go.WideShapes Go.ChangeAt Go.RowKit Base
/-- A link: a node, the bits of the kinds, how many arcs of each kind. -/
structure Lk where
  (nd ks c0 c1 c2 c3 : Int)
def Lk.zero : Lk := ⟨0, 0, 0, 0, 0, 0⟩
def Lk.vals (k : Lk) : List Value := [.int .i16 k.nd, .int .i16 k.ks, .int .i32 k.c0, .int .i32 k.c1, .int .i32 k.c2, .int .i32 k.c3]
theorem i64_of16 {x : Int} (h : -32768 ≤ x ∧ x ≤ 32767) : IntKind.i64.wrap x = x := by rw [IntKind.wrap_i64]; omega
def UpK (xs : List Lk) : Prop := ∀ i j, i < j → j < xs.length → (xs.getD i Lk.zero).nd < (xs.getD j Lk.zero).nd
def geK (xs : List Lk) (x : Int) (j : Nat) : Bool := decide (x ≤ (xs.getD j Lk.zero).nd)
theorem geK_mono {xs : List Lk} (hu : UpK xs) (x : Int) (i j : Nat) (h : i ≤ j) (hj : j < xs.length) (hp : geK xs x i = true) : geK xs x j = true := by
  unfold geK at *
  rw [decide_eq_true_eq] at *
  rcases Nat.lt_or_eq_of_le h with h1 | h1
  · have := hu i j h1 hj; omega
  · subst h1; exact hp
/-- Cells that hold a list of links. -/
def LksAt (w : World) (p : Option Addr) (xs : List Lk) : Prop := ∀ k, k < xs.length → ∃ g o, p = some ⟨g, o, none⟩ ∧ g < w.heap.size ∧ w.cell? ⟨g, o + k * 6, none⟩ = some (.int .i16 (xs.getD k Lk.zero).nd) ∧ w.cell? ⟨g, o + k * 6 + 1, none⟩ = some (.int .i16 (xs.getD k Lk.zero).ks) ∧ w.cell? ⟨g, o + k * 6 + 2, none⟩ = some (.int .i32 (xs.getD k Lk.zero).c0) ∧ w.cell? ⟨g, o + k * 6 + 3, none⟩ = some (.int .i32 (xs.getD k Lk.zero).c1) ∧ w.cell? ⟨g, o + k * 6 + 4, none⟩ = some (.int .i32 (xs.getD k Lk.zero).c2) ∧ w.cell? ⟨g, o + k * 6 + 5, none⟩ = some (.int .i32 (xs.getD k Lk.zero).c3)
theorem cmpI_neg {a x : Int} (h : a < x) : cmpI a x = -1 := by unfold cmpI; rw [if_pos h]
theorem cmpI_pos {a x : Int} (h : x < a) : cmpI a x = 1 := by unfold cmpI; rw [if_neg (by omega), if_pos h]
theorem cmpI_eq (x : Int) : cmpI x x = 0 := by unfold cmpI; rw [if_neg (by omega), if_neg (by omega)]
end Go.Proofs.YtakgepdlninnhaaDoor.Ro
