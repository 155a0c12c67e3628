/-
  Contracts of small functions, several texts laid into one. Not a statement of the seat.
-/
import Derived.Test.YtakgepdlninnhaaDoorHead4
import Derived.Test.YtakgepdlninnhaaDoorHead6
import Derived.Deep.DeepHandedRow
import Derived.Deep.RegionHeld3
import Derived.Test.YtakgepdlninnhaaDoorFrame
namespace Go.Proofs.YtakgepdlninnhaaDoor.Dl
open Go.ChangeShapes Go.WideShapes Go.ChangeAt Go.RowKit Base Ro
def valsU (xs : List Nat) : List Value := xs.map fun (x : Nat) => .int .u64 (x : Int)
theorem valsU_len (xs : List Nat) : (valsU xs).length = xs.length := by simp [valsU]
/-- What holds a list's numbers: no block, or one. -/
def LsAt (w : World) (B : Nat) (V : Value) (xs : List Nat) : Prop :=
  (xs = [] ∧ w.ownsRow B 72 1 V 0 []) ∨
  (xs ≠ [] ∧ ∃ g cap, w.ownsRow B 72 1 V 1 [.slice (some ⟨g, 0, none⟩) xs.length cap] ∧ w.ownsRow B 86 1 (.slice (some ⟨g, 0, none⟩) xs.length cap) xs.length (valsU xs))
/-- Numbers that rise, of 64 bits, few of them. -/
def GoodX (xs : List Nat) : Prop := Up xs ∧ xs.length < 500 ∧ ∀ x ∈ xs, x < 18446744073709551616
theorem cells_of {w : World} {B g n cap : Nat} {e : TypeId} {vs : List Value} (h : w.ownsRow B e 1 (.slice (some ⟨g, 0, none⟩) n cap) n vs) (hn : vs.length = n) (k : Nat) (hk : k < n) : w.cell? ⟨g, k, none⟩ = vs[k]? := by
  have h1 := h.cells (g := g) rfl k (vs[k]'(by omega)) (List.getElem?_eq_getElem (by omega))
  rw [add_plain, Nat.zero_add] at h1
  rw [h1, List.getElem?_eq_getElem (by omega)]
theorem num_cell {w : World} {B g cap : Nat} {xs : List Nat} (h : w.ownsRow B 86 1 (.slice (some ⟨g, 0, none⟩) xs.length cap) xs.length (valsU xs)) (k : Nat) (hk : k < xs.length) : w.cell? ⟨g, k, none⟩ = some (.int .u64 (xs.getD k 0 : Nat)) := by
  rw [cells_of h (valsU_len xs) k hk]
  simp [valsU, List.getD_eq_getElem?_getD, hk]
/-- Where a number stands, or would. -/
def posU : List Nat → Nat → Nat
  | [], _ => 0
  | y :: l, x => if y < x then posU l x + 1 else 0
theorem posU_le : ∀ (l : List Nat) (x : Nat), posU l x ≤ l.length
  | [], _ => Nat.le_refl _
  | y :: l, x => by
    unfold posU
    split
    · have := posU_le l x; simp; omega
    · exact Nat.zero_le _
theorem posU_lt : ∀ (l : List Nat) (x j : Nat), j < posU l x → l.getD j 0 < x
  | [], _, _, h => absurd h (Nat.not_lt_zero _)
  | y :: l, x, j, h => by
    unfold posU at h
    by_cases hy : y < x
    · rw [if_pos hy] at h
      cases j with
      | zero => simpa using hy
      | succ j => simpa using posU_lt l x j (by omega)
    · rw [if_neg hy] at h; exact absurd h (Nat.not_lt_zero _)
theorem posU_ge : ∀ (l : List Nat) (x : Nat), posU l x < l.length → x ≤ l.getD (posU l x) 0
  | [], _, h => absurd h (Nat.not_lt_zero _)
  | y :: l, x, h => by
    unfold posU at h ⊢
    by_cases hy : y < x
    · rw [if_pos hy] at h ⊢
      simpa using posU_ge l x (by simpa using h)
    · rw [if_neg hy]; simpa using hy
theorem posU_fst {l : List Nat} (hu : Up l) (x : Nat) : Fst (geP l x) l.length (posU l x) := by
  refine ⟨posU_le l x, fun j hj => ?_, fun j hj hl => ?_⟩
  · have := posU_lt l x j hj
    unfold geP; rw [decide_eq_false_iff_not]; omega
  · have h1 := posU_ge l x (by omega)
    unfold geP; rw [decide_eq_true_eq]
    rcases Nat.lt_or_eq_of_le hj with h2 | h2
    · have := hu _ _ h2 hl; omega
    · rw [← h2]; exact h1
/-- What seek tells. -/
def seekV (xs : List Nat) (x : Nat) : Int × Int × Bool :=
  if xs = [] then (0, 0, false) else if xs.getD (xs.length - 1) 0 < x then (1, 0, false) else (0, (posU xs x : Int), decide (posU xs x < xs.length ∧ xs.getD (posU xs x) 0 = x))
def SeekP (xs : List Nat) (x : Nat) (w : World) (e : Ending) (w' : World) : Prop := e = .returned (.tuple #[.int .i64 (seekV xs x).1, .int .i64 (seekV xs x).2.1, .bool (seekV xs x).2.2]) ∧ Below w.heap.size w w'
theorem LsAt.below {w w' : World} {B : Nat} {V : Value} {xs : List Nat} (h : LsAt w B V xs) (hb : Below w.heap.size w w') : LsAt w' B V xs := by
  have key : ∀ (e : TypeId) (v : Value) (n : Nat) (vs : List Value), w.ownsRow B e 1 v n vs → w'.ownsRow B e 1 v n vs := fun e v n vs h => by
    refine ⟨h.1, ?_⟩
    rcases h.2 with h2 | ⟨g, cap, cur, h1, h2, h3, h4⟩
    · exact .inl h2
    · exact .inr ⟨g, cap, cur, h1, h2, (hb.block g (heap_lt h3)).trans h3, h4⟩
  rcases h with ⟨h1, h2⟩ | ⟨h1, g, cap, h2, h3⟩
  · exact .inl ⟨h1, key _ _ _ _ h2⟩
  · exact .inr ⟨h1, g, cap, key _ _ _ _ h2, key _ _ _ _ h3⟩
theorem LsAt.form {w : World} {B : Nat} {V : Value} {xs : List Nat} (h : LsAt w B V xs) : ∃ p c, V = .slice p (if xs = [] then 0 else 1) c := by
  rcases h with ⟨h1, h2⟩ | ⟨h1, g, cap, h2, h3⟩
  · rw [if_pos h1]
    rcases h2.2 with ⟨rfl, _⟩ | ⟨g, c, cur, rfl, _⟩
    · exact ⟨_, _, rfl⟩
    · exact ⟨_, _, rfl⟩
  · rw [if_neg h1]
    rcases h2.2 with ⟨_, h4⟩ | ⟨g, c, cur, rfl, _⟩
    · omega
    · exact ⟨_, _, rfl⟩
end Go.Proofs.YtakgepdlninnhaaDoor.Dl
namespace Go.Proofs.YtakgepdlninnhaaDoor.Dl
open Go.ChangeShapes Go.WideShapes Go.ChangeAt Go.RowKit Base Ro F
/-- The blocks that a change of a list turns: the graph's own, and those of numbers. -/
def LF (w : World) (B b h : Nat) : Prop := h = b ∨ (B ≤ h ∧ ∃ cs T, w.heap[h]? = some (.cells cs T (0, 0)) ∧ (T = 86 ∨ T = 72))
/-- A number put in its place. -/
def insX (xs : List Nat) (x : Nat) : List Nat := xs.take (posU xs x) ++ x :: xs.drop (posU xs x)
theorem insX_vals (xs : List Nat) (x : Nat) : (valsU xs).take (posU xs x * 1) ++ [.int .u64 (x : Int)] ++ (valsU xs).drop (posU xs x * 1) = valsU (insX xs x) := by
  simp [valsU, insX, List.map_take, List.map_drop]
theorem insX_len (xs : List Nat) (x : Nat) : (insX xs x).length = xs.length + 1 := by
  have := posU_le xs x
  simp [insX]; omega
theorem posU_all : ∀ (xs : List Nat) (x : Nat), (∀ y ∈ xs, y < x) → posU xs x = xs.length
  | [], _, _ => rfl
  | y :: l, x, h => by
    unfold posU
    rw [if_pos (h y (by simp)), posU_all l x fun z hz => h z (by simp [hz])]
    rfl
theorem up_last {xs : List Nat} (hu : Up xs) {x : Nat} (h : xs.getD (xs.length - 1) 0 < x) : posU xs x = xs.length := by
  refine posU_all xs x fun y hy => ?_
  obtain ⟨j, hj, rfl⟩ := List.getElem_of_mem hy
  have e : xs[j] = xs.getD j 0 := by simp [List.getD_eq_getElem?_getD, hj]
  rw [e]
  rcases Nat.lt_or_ge j (xs.length - 1) with h1 | h1
  · have := hu j (xs.length - 1) h1 (by omega); omega
  · rw [show j = xs.length - 1 by omega]; exact h
/-- Whether a number is there, by where it stands. -/
theorem mem_iff {xs : List Nat} (hu : Up xs) (x : Nat) : (posU xs x < xs.length ∧ xs.getD (posU xs x) 0 = x) ↔ x ∈ xs := by
  constructor
  · rintro ⟨h1, h2⟩
    have e : xs[posU xs x] = xs.getD (posU xs x) 0 := by simp [List.getD_eq_getElem?_getD, h1]
    have hm := List.getElem_mem h1
    rw [e, h2] at hm
    exact hm
  · intro h
    obtain ⟨j, hj, he⟩ := List.getElem_of_mem h
    have e : xs.getD j 0 = x := by simp [List.getD_eq_getElem?_getD, hj, he]
    have h1 : posU xs x ≤ j := by
      rcases Nat.lt_or_ge j (posU xs x) with h2 | h2
      · have := posU_lt xs x j h2; omega
      · exact h2
    rcases Nat.lt_or_eq_of_le h1 with h2 | h2
    · have h3 := hu _ _ h2 hj
      have h4 := posU_ge xs x (by omega)
      omega
    · rw [h2]; exact ⟨hj, e⟩
theorem seekV_mem {xs : List Nat} (hu : Up xs) (x : Nat) : (seekV xs x).2.2 = decide (x ∈ xs) := by
  unfold seekV
  by_cases h : xs = []
  · rw [if_pos h, h]; simp
  · rw [if_neg h]
    by_cases h1 : xs.getD (xs.length - 1) 0 < x
    · rw [if_pos h1]
      symm
      rw [decide_eq_false_iff_not]
      intro hm
      have := (mem_iff hu x).2 hm
      rw [up_last hu h1] at this
      omega
    · rw [if_neg h1]
      exact decide_eq_decide.2 (mem_iff hu x)
theorem insX_ne (xs : List Nat) (x : Nat) : insX xs x ≠ [] := by simp [insX]
theorem oneU (x : Int) : ∀ u ∈ [Value.int .u64 x], u.oneCell' = true := by intro u hu; simp at hu; subst hu; rfl
theorem oneVals (xs : List Nat) : ∀ u ∈ valsU xs, u.oneCell' = true := by
  intro u hu
  simp only [valsU, List.mem_map] at hu
  obtain ⟨a, _, rfl⟩ := hu
  rfl
/-- The one block's place. -/
theorem out_row {w : World} {B : Nat} {V BV : Value} (ho : w.ownsRow B 72 1 V 1 [BV]) : ∃ G C cur, V = .slice (some ⟨G, 0, none⟩) 1 C ∧ B ≤ G ∧ w.heap[G]? = some (.cells cur 72 (0, 0)) ∧ 1 ≤ C ∧ C ≤ maxLen ∧ cur.size = C ∧ cur[0]? = some BV := by
  rcases ho.2 with ⟨_, h4⟩ | ⟨G, C, cur, h1, h2, h3, h4, h5, h6, h7⟩
  · omega
  · refine ⟨G, C, cur, h1, h2, h3, h4, h5, by omega, ?_⟩
    have : (cur.toList.take (1 * 1))[0]? = some BV := by rw [h7]; rfl
    rw [List.getElem?_take, if_pos (by omega)] at this
    rwa [Array.getElem?_toList] at this
theorem row_blk {w : World} {B g n cap : Nat} {e : TypeId} {vs : List Value} (hr : w.ownsRow B e 1 (.slice (some ⟨g, 0, none⟩) n cap) n vs) : ∃ cur, w.heap[g]? = some (.cells cur e (0, 0)) ∧ B ≤ g := by
  rcases hr.2 with ⟨h4, _⟩ | ⟨g', C', cur, h4, h2, h3, _⟩
  · cases h4
  · injection h4 with h4; injection h4 with h4; injection h4 with h4; subst h4; exact ⟨cur, h3, h2⟩
theorem own_heap {w w' : World} {B g n cap : Nat} {e : TypeId} {vs : List Value} (hr : w.ownsRow B e 1 (.slice (some ⟨g, 0, none⟩) n cap) n vs) (h : w'.heap[g]? = w.heap[g]?) : w'.ownsRow B e 1 (.slice (some ⟨g, 0, none⟩) n cap) n vs := by
  refine ⟨hr.1, ?_⟩
  rcases hr.2 with ⟨h4, _⟩ | ⟨g', C', cur, h4, h2, h3, h5⟩
  · cases h4
  · injection h4 with h4 h6 h7; injection h4 with h4; injection h4 with h4
    subst h4
    exact .inr ⟨g, C', cur, by rw [h7], h2, h.trans h3, h5⟩
theorem fr_one {w w1 w3 : World} {g : Nat} {o : Obj} (hb : Below w.heap.size w w1) (hg : (w1.alloc o).drew.grownBy w3 (some g)) : Fr (fun h => h = g) w w3 := by
  have h1 : Below w.heap.size w (w1.alloc o).drew := below_drewN (hb.alloc hb.size o) 1
  exact (Fr.of_below h1).trans (Fr.of_grown (F := fun h => h = g) hg (fun k hk => (Option.some.inj hk).symm)) (fun _ _ h => h)
end Go.Proofs.YtakgepdlninnhaaDoor.Dl
namespace Go.Proofs.YtakgepdlninnhaaDoor.Dl
open Go.ChangeShapes Go.WideShapes Go.ChangeAt Go.RowKit Base Ro F
theorem held_fr {F : Nat → Prop} {w w' : World} (h : Hid (Fr F w w')) : Fr F w w' := h.out
end Go.Proofs.YtakgepdlninnhaaDoor.Dl
namespace Go.Proofs.YtakgepdlninnhaaDoor.Dl
open Go.ChangeShapes Go.WideShapes Go.ChangeAt Go.RowKit Base Ro F
end Go.Proofs.YtakgepdlninnhaaDoor.Dl
namespace Go.Proofs.YtakgepdlninnhaaDoor.Dl
open Go.ChangeShapes Go.WideShapes Go.ChangeAt Go.RowKit Base Ro F
/-- A number taken out. -/
def delX (xs : List Nat) (x : Nat) : List Nat := xs.take (posU xs x) ++ xs.drop (posU xs x + 1)
theorem delX_vals (xs : List Nat) (x : Nat) : (valsU xs).take (posU xs x * 1) ++ (valsU xs).drop ((posU xs x + 1) * 1) = valsU (delX xs x) := by
  simp [valsU, delX, List.map_take, List.map_drop]
theorem delX_len {xs : List Nat} {x : Nat} (h : posU xs x < xs.length) : (delX xs x).length = xs.length - 1 := by
  simp [delX]; omega
end Go.Proofs.YtakgepdlninnhaaDoor.Dl
namespace Go.Proofs.YtakgepdlninnhaaDoor.Dl
open Go.ChangeShapes Go.WideShapes Go.ChangeAt Go.RowKit Base Ro F
end Go.Proofs.YtakgepdlninnhaaDoor.Dl
namespace Go.Proofs.YtakgepdlninnhaaDoor.Dl
open Go.ChangeShapes Go.WideShapes Go.ChangeAt Go.RowKit Base Ro F
end Go.Proofs.YtakgepdlninnhaaDoor.Dl
namespace Go.Proofs.YtakgepdlninnhaaDoor.Dl
open Go.ChangeShapes Go.WideShapes Go.ChangeAt Go.RowKit Base Ro F
/-- A number put in, or taken out, leaves a list that rises. -/
theorem insX_mem {xs : List Nat} {x y : Nat} : y ∈ insX xs x ↔ y = x ∨ y ∈ xs := by
  unfold insX
  rw [List.mem_append, List.mem_cons]
  have := List.take_append_drop (posU xs x) xs
  constructor
  · rintro (h | h | h)
    · exact .inr (List.mem_of_mem_take h)
    · exact .inl h
    · exact .inr (List.mem_of_mem_drop h)
  · rintro (h | h)
    · exact .inr (.inl h)
    · rw [← this, List.mem_append] at h
      rcases h with h | h
      · exact .inl h
      · exact .inr (.inr h)
theorem up_pw {xs : List Nat} : Up xs ↔ xs.Pairwise (· < ·) := by
  constructor
  · intro h
    rw [List.pairwise_iff_getElem]
    intro i j hi hj hij
    have := h i j hij hj
    rw [List.getD_eq_getElem?_getD, List.getD_eq_getElem?_getD, List.getElem?_eq_getElem hi, List.getElem?_eq_getElem hj] at this
    exact this
  · intro h i j hij hj
    rw [List.pairwise_iff_getElem] at h
    have := h i j (by omega) hj hij
    rw [List.getD_eq_getElem?_getD, List.getD_eq_getElem?_getD, List.getElem?_eq_getElem hj, List.getElem?_eq_getElem (show i < xs.length by omega)]
    exact this
theorem pos_take {xs : List Nat} {x y : Nat} (h : y ∈ xs.take (posU xs x)) : y < x := by
  obtain ⟨j, hj, rfl⟩ := List.getElem_of_mem h
  rw [List.length_take] at hj
  have := posU_lt xs x j (by omega)
  rw [List.getD_eq_getElem?_getD, List.getElem?_eq_getElem (by omega)] at this
  rw [List.getElem_take]
  exact this
theorem pos_drop {xs : List Nat} (hu : Up xs) {x y : Nat} (h : y ∈ xs.drop (posU xs x)) : x ≤ y := by
  obtain ⟨j, hj, rfl⟩ := List.getElem_of_mem h
  rw [List.length_drop] at hj
  rw [List.getElem_drop]
  have h0 := posU_ge xs x (by omega)
  have e : xs[posU xs x + j] = xs.getD (posU xs x + j) 0 := by simp [List.getD_eq_getElem?_getD, show posU xs x + j < xs.length by omega]
  rw [e]
  rcases Nat.eq_zero_or_pos j with hj0 | hj0
  · subst hj0; exact h0
  · have := hu (posU xs x) (posU xs x + j) (by omega) (by omega); omega
theorem insX_up {xs : List Nat} (hu : Up xs) {x : Nat} (hn : x ∉ xs) : Up (insX xs x) := by
  have hp := up_pw.1 hu
  rw [up_pw]
  unfold insX
  rw [List.pairwise_append, List.pairwise_cons]
  have hd : ∀ y ∈ xs.drop (posU xs x), x < y := fun y hy => by
    have := pos_drop hu hy
    rcases Nat.lt_or_eq_of_le this with h | h
    · exact h
    · exact absurd (h ▸ List.mem_of_mem_drop hy) hn
  refine ⟨hp.sublist (List.take_sublist _ _), ⟨hd, hp.sublist (List.drop_sublist _ _)⟩, fun y hy z hz => ?_⟩
  have h1 := pos_take hy
  rcases List.mem_cons.1 hz with rfl | hz
  · exact h1
  · have := hd z hz; omega
theorem delX_sub (xs : List Nat) (x : Nat) : (delX xs x).Sublist xs := by
  unfold delX
  have h : (xs.take (posU xs x) ++ xs.drop (posU xs x + 1)).Sublist (xs.take (posU xs x) ++ xs.drop (posU xs x)) := by
    refine List.Sublist.append (List.Sublist.refl _) ?_
    rw [← List.drop_drop]
    exact List.drop_sublist _ _
  rw [List.take_append_drop] at h
  exact h
theorem delX_up {xs : List Nat} (hu : Up xs) (x : Nat) : Up (delX xs x) := up_pw.2 ((up_pw.1 hu).sublist (delX_sub xs x))
theorem delX_mem {xs : List Nat} (hu : Up xs) {x y : Nat} (hx : x ∈ xs) : y ∈ delX xs x ↔ y ∈ xs ∧ y ≠ x := by
  obtain ⟨h1, h2⟩ := (mem_iff hu x).2 hx
  have hget : xs[posU xs x] = x := by rw [List.getD_eq_getElem?_getD, List.getElem?_eq_getElem h1] at h2; exact h2
  have hcut : xs = xs.take (posU xs x) ++ x :: xs.drop (posU xs x + 1) := by
    have := List.take_append_drop (posU xs x) xs
    rw [List.drop_eq_getElem_cons h1, hget] at this
    exact this.symm
  have hp := up_pw.1 hu
  unfold delX
  constructor
  · intro h
    refine ⟨(delX_sub xs x).subset h, ?_⟩
    rw [hcut, List.pairwise_append, List.pairwise_cons] at hp
    rcases List.mem_append.1 h with h | h
    · have := pos_take h; omega
    · have := hp.2.1.1 y h; omega
  · rintro ⟨h, hne⟩
    rw [hcut] at h
    rcases List.mem_append.1 h with h | h
    · exact List.mem_append.2 (.inl h)
    · rcases List.mem_cons.1 h with h | h
      · exact absurd h hne
      · exact List.mem_append.2 (.inr h)
end Go.Proofs.YtakgepdlninnhaaDoor.Dl
