/-
  Contracts of small functions, several texts laid into one. Not a statement of the seat.
-/
import Derived.Test.YtakgepdlninnhaaDoorHead7
import Derived.Test.YtakgepdlninnhaaDoorHead2
import Derived.Test.YtakgepdlninnhaaDoorHead8
import Derived.Test.YtakgepdlninnhaaDoorDl6
import Derived.RegionTactic
import Derived.BigRegion
import Derived.Deep.RegionHeld3
namespace Go.Proofs.YtakgepdlninnhaaDoor.Gr
open Go.ChangeShapes Go.WideShapes Go.ChangeAt Go.RowKit Base Ro F Dl
variable {w : World} {b m n k vm vc nc pc : Nat} {vp np pp : Option Addr}
def HeldP (v : Value) (w : World) (e : Ending) (w' : World) : Prop := e = .returned v ∧ Below w.heap.size w w'
end Go.Proofs.YtakgepdlninnhaaDoor.Gr
namespace Go.Proofs.YtakgepdlninnhaaDoor.Gr
open Go.ChangeShapes Go.WideShapes Go.ChangeAt Go.RowKit Base Ro F Dl
theorem box_cell (W : World) (c : Array Value) (t : TypeId) (j : Nat) : (W.alloc (.cells c t)).cell? ⟨W.heap.size, j, none⟩ = c[j]? := by
  simp only [World.cell?, heap_alloc_at W (.cells c t) W.heap.size rfl]
  rfl
/-- An arc that is right where there are n nodes. -/
def rightA (n : Nat) (f t k l : Int) : Prop := (0 ≤ f ∧ f < (n : Int)) ∧ (0 ≤ t ∧ t < (n : Int)) ∧ (1 ≤ k ∧ k < 4) ∧ 0 ≤ l ∧ l ≤ 1048575
instance (n : Nat) (f t k l : Int) : Decidable (rightA n f t k l) := by unfold rightA; exact inferInstance
def arcV (f t k l : Int) : Value := .agg #[.int .i64 f, .int .i64 t, .int .i64 k, .int .i64 l]
end Go.Proofs.YtakgepdlninnhaaDoor.Gr
namespace Go.Proofs.YtakgepdlninnhaaDoor.Gr
open Go.ChangeShapes Go.WideShapes Go.ChangeAt Go.RowKit Base Ro F Dl Ln
theorem own_kind {w : World} {B size n : Nat} {e : TypeId} {v : Value} {xs : List Value} (h : w.ownsRow B e size v n xs) {g : Nat} (hg : v.ownBlock = some g) : ∃ cur, w.heap[g]? = some (.cells cur e (0, 0)) := by
  rcases h.2 with ⟨rfl, _⟩ | ⟨g', C', cur, rfl, _, h3, _⟩
  · simp [Value.ownBlock] at hg
  · have : g' = g := by simpa [Value.ownBlock] using hg
    exact this ▸ ⟨cur, h3⟩
/-- A list's blocks, where no block of numbers was turned. -/
theorem ls_same {w w' : World} {B : Nat} {V : Value} {xs : List Nat} (h : LsAt w B V xs) (hk : ∀ (g : Nat) (cs : Array Value) (T : TypeId), w.heap[g]? = some (Obj.cells cs T (0, 0)) → (T = 86 ∨ T = 72) → w'.heap[g]? = w.heap[g]?) : LsAt w' B V xs := by
  rcases h with ⟨h1, h2⟩ | ⟨h1, g, cap, h2, h3⟩
  · exact .inl ⟨h1, own_any h2 fun k hk' => by obtain ⟨cur, hc⟩ := own_kind h2 hk'; exact hk _ _ _ hc (.inr rfl)⟩
  · exact .inr ⟨h1, g, cap, own_any h2 fun k hk' => (by obtain ⟨cur, hc⟩ := own_kind h2 hk'; exact hk _ _ _ hc (.inr rfl)), own_any h3 fun k hk' => (by obtain ⟨cur, hc⟩ := own_kind h3 hk'; exact hk _ _ _ hc (.inl rfl))⟩
theorem range_set (f : Nat → Value) (n a : Nat) (v : Value) : ((List.range n).map f).toArray.setIfInBounds a v = ((List.range n).map (fun j => if j = a then v else f j)).toArray := by
  apply Array.ext
  · simp
  · intro i h1 h2
    rw [Array.getElem_setIfInBounds (by simpa using h2)]
    by_cases hi : i = a
    · rw [if_pos hi.symm]; simp [hi]
    · rw [if_neg (fun e => hi e.symm)]; simp [hi]
def updV (Vs : Bool → Nat → Value) (s : Bool) (a : Nat) (V : Value) : Bool → Nat → Value := fun s' a' => if s' = s ∧ a' = a then V else Vs s' a'
def updC (cnt : Bool → Nat → Nat → Nat → Int) (s : Bool) (a c k : Nat) (v : Int) : Bool → Nat → Nat → Nat → Int := fun s' a' => if s' = s ∧ a' = a then upd (cnt s a) c k v else cnt s' a'
theorem updV_at (Vs : Bool → Nat → Value) (s : Bool) (a : Nat) (V : Value) : updV Vs s a V s a = V := by simp [updV]
theorem updV_row (Vs : Bool → Nat → Value) (s : Bool) (a : Nat) (V : Value) : updV Vs s a V s = fun j => if j = a then V else Vs s j := by funext j; simp [updV]
theorem updV_other (Vs : Bool → Nat → Value) {s s' : Bool} (a : Nat) (V : Value) (h : s' ≠ s) : updV Vs s a V s' = Vs s' := by funext j; simp [updV, h]
end Go.Proofs.YtakgepdlninnhaaDoor.Gr
namespace Go.Proofs.YtakgepdlninnhaaDoor.Gr
open Go.ChangeShapes Go.WideShapes Go.ChangeAt Go.RowKit Base Ro F Dl Ln
variable {w : World} {B b n : Nat} {xs : List Nat} {nbs : Bool → Nat} {Vs : Bool → Nat → Value} {cnt : Bool → Nat → Nat → Nat → Int}
/-- An arc's number. -/
def numN (f t k l : Nat) : Nat := f * 17179869184 + k * 4294967296 + l * 4096 + t
theorem numN_int (f t k l : Nat) : ((numN f t k l : Nat) : Int) = numI f t k l := by unfold numN numI; omega
end Go.Proofs.YtakgepdlninnhaaDoor.Gr
namespace Go.Proofs.YtakgepdlninnhaaDoor.Gr
open Go.ChangeShapes Go.WideShapes Go.ChangeAt Go.RowKit Base Ro F Dl Ln
theorem box6 {w w1 : World} {c : Array Value} {t : TypeId} (hb : Below (w.heap.size + 1) (w.alloc (.cells c t)) w1) (j : Nat) : w1.cell? ⟨w.heap.size, j, none⟩ = c[j]? :=
  (hb.cell (p := ⟨w.heap.size, j, none⟩) (by simp)).trans (box_cell w c t j)
end Go.Proofs.YtakgepdlninnhaaDoor.Gr
namespace Go.Proofs.YtakgepdlninnhaaDoor.Gr
open Go.ChangeShapes Go.WideShapes Go.ChangeAt Go.RowKit Base Ro F Dl Ln
theorem boxes (w : World) (f t k l : Int) : (w.alloc (.cells #[.int .i64 f, .int .i64 t, .int .i64 k, .int .i64 l] 68)).cell? ⟨w.heap.size, 0, none⟩ = some (.int .i64 f) ∧ (w.alloc (.cells #[.int .i64 f, .int .i64 t, .int .i64 k, .int .i64 l] 68)).cell? ⟨w.heap.size, 1, none⟩ = some (.int .i64 t) ∧ (w.alloc (.cells #[.int .i64 f, .int .i64 t, .int .i64 k, .int .i64 l] 68)).cell? ⟨w.heap.size, 2, none⟩ = some (.int .i64 k) ∧ (w.alloc (.cells #[.int .i64 f, .int .i64 t, .int .i64 k, .int .i64 l] 68)).cell? ⟨w.heap.size, 3, none⟩ = some (.int .i64 l) :=
  ⟨box_cell w _ _ 0, box_cell w _ _ 1, box_cell w _ _ 2, box_cell w _ _ 3⟩
end Go.Proofs.YtakgepdlninnhaaDoor.Gr
namespace Go.Proofs.YtakgepdlninnhaaDoor.Gr
open Go.ChangeShapes Go.WideShapes Go.ChangeAt Go.RowKit Base Ro F Dl Ln
end Go.Proofs.YtakgepdlninnhaaDoor.Gr
namespace Go.Proofs.YtakgepdlninnhaaDoor.Gr
open Go.ChangeShapes Go.WideShapes Go.ChangeAt Go.RowKit Base Ro F Dl Ln
/-- What is known of the world in a walk: the digraph's cells, and those of the box that holds the arc. -/
def Cl (w : World) (b g n : Nat) (nb pb : Nat) (f t k l : Int) : Prop :=
  w.cell? ⟨b, 2, none⟩ = some (.slice (some ⟨nb, 0, none⟩) n n) ∧ w.cell? ⟨b, 3, none⟩ = some (.slice (some ⟨pb, 0, none⟩) n n) ∧
  w.cell? ⟨g, 0, none⟩ = some (.int .i64 f) ∧ w.cell? ⟨g, 1, none⟩ = some (.int .i64 t) ∧ w.cell? ⟨g, 2, none⟩ = some (.int .i64 k) ∧ w.cell? ⟨g, 3, none⟩ = some (.int .i64 l)
def boxA (f t k l : Int) : Obj := .cells #[.int .i64 f, .int .i64 t, .int .i64 k, .int .i64 l] 68
/-- The counts behind one more, or one less, arc. -/
def cntA (cnt : Bool → Nat → Nat → Nat → Int) (f t k : Nat) (d : Int) : Bool → Nat → Nat → Nat → Int :=
  updC (updC cnt true f t k (cnt true f t k + d)) false t f k (cnt false t f k + d)
theorem joinW {P : Prop} (J G : World → Prop) (h1 : (∀ u, J u → G u) → P) (h2 : ∀ u, J u → G u) : P := h1 h2
end Go.Proofs.YtakgepdlninnhaaDoor.Gr
namespace Go.Proofs.YtakgepdlninnhaaDoor.Gr
open Go.ChangeShapes Go.WideShapes Go.ChangeAt Go.RowKit Base Ro F Dl Ln
end Go.Proofs.YtakgepdlninnhaaDoor.Gr
