/-
  Contracts of small functions, several texts laid into one. Not a statement of the seat.
-/
import Derived.Test.YtakgepdlninnhaaDoorHead4
import Derived.Test.YtakgepdlninnhaaDoorHead6
import Derived.Test.YtakgepdlninnhaaDoorFrame
import Derived.RegionTactic
import Derived.BigRegion
namespace Go.Proofs.YtakgepdlninnhaaDoor.Ln
open Go.ChangeShapes Go.WideShapes Go.ChangeAt Go.RowKit Base Ro F
def flatK (ks : List Lk) : List Value := ks.flatMap Lk.vals
theorem flatK_len (ks : List Lk) : (flatK ks).length = ks.length * 6 := by
  unfold flatK
  induction ks with
  | nil => rfl
  | cons x l ih => rw [List.flatMap_cons, List.length_append, ih, List.length_cons]; simp [Lk.vals]; omega
theorem flatK_get : ∀ (ks : List Lk) (k j : Nat), k < ks.length → j < 6 → (flatK ks)[k * 6 + j]? = (Lk.vals (ks.getD k Lk.zero))[j]?
  | [], _, _, h, _ => by simp at h
  | x :: l, 0, j, _, hj => by
    unfold flatK
    rw [List.flatMap_cons, List.getElem?_append_left (by simp [Lk.vals]; omega)]
    simp
  | x :: l, k + 1, j, h, hj => by
    unfold flatK
    rw [List.flatMap_cons, List.getElem?_append_right (by simp [Lk.vals]; omega)]
    have := flatK_get l k j (by simpa using h) hj
    unfold flatK at this
    rw [show (k + 1) * 6 + j - (Lk.vals x).length = k * 6 + j by simp [Lk.vals]; omega, this]
    simp
theorem oneK (ks : List Lk) : ∀ u ∈ flatK ks, u.oneCell' = true := by
  intro u hu
  unfold flatK at hu
  rw [List.mem_flatMap] at hu
  obtain ⟨x, _, hx⟩ := hu
  simp only [Lk.vals, List.mem_cons, List.not_mem_nil, or_false] at hx
  rcases hx with rfl | rfl | rfl | rfl | rfl | rfl <;> rfl
/-- A cell of a row of the call's own is stored into. -/
theorem own_set {w : World} {B g n m cap size : Nat} {e : TypeId} {xs : List Value} (h : w.ownsRow B e size (.slice (some ⟨g, 0, none⟩) n cap) m xs) (j : Nat) (v : Value) : (w.setCell ⟨g, j, none⟩ v).ownsRow B e size (.slice (some ⟨g, 0, none⟩) n cap) m (xs.set j v) := by
  refine ⟨by rw [List.length_set]; exact h.1, ?_⟩
  rcases h.2 with ⟨h1, _⟩ | ⟨g', c', cur, h1, h2, h3, h4, h5, h6, h7⟩
  · cases h1
  · injection h1 with h1 h8 h9; injection h1 with h1; injection h1 with h1
    subst h1
    refine .inr ⟨g, c', cur.setIfInBounds j v, by rw [h8, h9], h2, ?_, h4, h5, by simpa using h6, ?_⟩
    · simp only [World.setCell, Array.getElem?_modify, if_true, h3, Option.map_some]
      rfl
    · rw [← h7, Array.toList_setIfInBounds, List.take_set]
theorem flatK_set : ∀ (ks : List Lk) (r j : Nat) (x : Lk) (v : Value), r < ks.length → j < 6 → Lk.vals x = (Lk.vals (ks.getD r Lk.zero)).set j v → flatK (ks.set r x) = (flatK ks).set (r * 6 + j) v
  | [], _, _, _, _, h, _, _ => by simp at h
  | y :: l, 0, j, x, v, _, hj, hx => by
    unfold flatK
    rw [List.set_cons_zero, List.flatMap_cons, List.flatMap_cons, hx, List.getD_cons_zero, List.set_append_left _ _ (by simp [Lk.vals]; omega)]
    simp
  | y :: l, r + 1, j, x, v, h, hj, hx => by
    have := flatK_set l r j x v (by simpa using h) hj (by simpa using hx)
    unfold flatK at this ⊢
    rw [List.set_cons_succ, List.flatMap_cons, List.flatMap_cons, this, List.set_append_right _ _ (by simp [Lk.vals]; omega), show (r + 1) * 6 + j - (Lk.vals y).length = r * 6 + j by simp [Lk.vals]; omega]
/-- The count of a kind. -/
def cntK (x : Lk) : Nat → Int
  | 0 => x.c0
  | 1 => x.c1
  | 2 => x.c2
  | _ => x.c3
def setcK (x : Lk) (k : Nat) (c : Int) : Lk := match k with
  | 0 => { x with c0 := c }
  | 1 => { x with c1 := c }
  | 2 => { x with c2 := c }
  | _ => { x with c3 := c }
def setkK (x : Lk) (s : Int) : Lk := { x with ks := s }
theorem vals_setc (x : Lk) (k : Nat) (hk : k < 4) (c : Int) : Lk.vals (setcK x k c) = (Lk.vals x).set (2 + k) (.int .i32 c) := by
  match k, hk with
  | 0, _ => rfl
  | 1, _ => rfl
  | 2, _ => rfl
  | 3, _ => rfl
theorem vals_setk (x : Lk) (s : Int) : Lk.vals (setkK x s) = (Lk.vals x).set 1 (.int .i16 s) := rfl
theorem vals_cnt (x : Lk) (k : Nat) (hk : k < 4) : (Lk.vals x)[2 + k]? = some (.int .i32 (cntK x k)) := by
  match k, hk with
  | 0, _ => rfl
  | 1, _ => rfl
  | 2, _ => rfl
  | 3, _ => rfl
end Go.Proofs.YtakgepdlninnhaaDoor.Ln
namespace Go.Proofs.YtakgepdlninnhaaDoor.Ln
open Go.ChangeShapes Go.WideShapes Go.ChangeAt Go.RowKit Base Ro F
theorem own_blk {w w' : World} {B g n cap size : Nat} {e : TypeId} {m : Nat} {vs : List Value} (hr : w.ownsRow B e size (.slice (some ⟨g, 0, none⟩) n cap) m vs) (h : w'.heap[g]? = w.heap[g]?) : w'.ownsRow B e size (.slice (some ⟨g, 0, none⟩) n cap) m vs := by
  refine ⟨hr.1, ?_⟩
  rcases hr.2 with ⟨h4, _⟩ | ⟨g', C', cur, h4, h2, h3, h5⟩
  · cases h4
  · injection h4 with h4 h6 h7; injection h4 with h4; injection h4 with h4
    subst h4
    exact .inr ⟨g, C', cur, by rw [h6, h7], h2, h.trans h3, h5⟩
/-- Links of few nodes, in bounds. -/
def GoodK (ks : List Lk) : Prop := UpK ks ∧ ks.length ≤ 5000 ∧ ∀ j, j < ks.length → -32768 ≤ (ks.getD j Lk.zero).nd ∧ (ks.getD j Lk.zero).nd ≤ 32767
end Go.Proofs.YtakgepdlninnhaaDoor.Ln
namespace Go.Proofs.YtakgepdlninnhaaDoor.Ln
open Go.ChangeShapes Go.WideShapes Go.ChangeAt Go.RowKit Base Ro F
end Go.Proofs.YtakgepdlninnhaaDoor.Ln
namespace Go.Proofs.YtakgepdlninnhaaDoor.Ln
open Go.ChangeShapes Go.WideShapes Go.ChangeAt Go.RowKit Base Ro F
def outK (ks : List Lk) (r : Nat) : List Lk := ks.take r ++ ks.drop (r + 1)
theorem outK_len {ks : List Lk} {r : Nat} (h : r < ks.length) : (outK ks r).length = ks.length - 1 := by
  simp [outK]; omega
theorem flatK_take : ∀ (ks : List Lk) (r : Nat), flatK (ks.take r) = (flatK ks).take (r * 6)
  | [], r => by simp [flatK]
  | x :: l, 0 => by simp [flatK]
  | x :: l, r + 1 => by
    have := flatK_take l r
    unfold flatK at this ⊢
    rw [List.take_succ_cons, List.flatMap_cons, List.flatMap_cons, this, show (r + 1) * 6 = (Lk.vals x).length + r * 6 by simp [Lk.vals]; omega, List.take_length_add_append]
theorem flatK_drop : ∀ (ks : List Lk) (r : Nat), flatK (ks.drop r) = (flatK ks).drop (r * 6)
  | [], r => by simp [flatK]
  | x :: l, 0 => by simp [flatK]
  | x :: l, r + 1 => by
    have := flatK_drop l r
    unfold flatK at this ⊢
    rw [List.drop_succ_cons, List.flatMap_cons, this, show (r + 1) * 6 = (Lk.vals x).length + r * 6 by simp [Lk.vals]; omega, List.drop_length_add_append]
theorem flatK_out (ks : List Lk) (r : Nat) : (flatK ks).take (r * 6) ++ (flatK ks).drop ((r + 1) * 6) = flatK (outK ks r) := by
  rw [← flatK_take, ← flatK_drop]
  simp [flatK, outK]
theorem outK_set (ks : List Lk) (r : Nat) (y : Lk) : outK (ks.set r y) r = outK ks r := by
  unfold outK
  rw [List.take_set_of_le (Nat.le_refl r), List.drop_set_of_lt (Nat.lt_succ_self r)]
end Go.Proofs.YtakgepdlninnhaaDoor.Ln
namespace Go.Proofs.YtakgepdlninnhaaDoor.Ln
open Go.ChangeShapes Go.WideShapes Go.ChangeAt Go.RowKit Base Ro F
/-- A link put in. -/
def inK (ks : List Lk) (r : Nat) (y : Lk) : List Lk := ks.take r ++ y :: ks.drop r
theorem inK_len {ks : List Lk} {r : Nat} (y : Lk) (h : r ≤ ks.length) : (inK ks r y).length = ks.length + 1 := by
  simp [inK]; omega
theorem flatK_in (ks : List Lk) (r : Nat) (y : Lk) : (flatK ks).take (r * 6) ++ Lk.vals y ++ (flatK ks).drop (r * 6) = flatK (inK ks r y) := by
  rw [← flatK_take, ← flatK_drop]
  simp [flatK, inK]
theorem inK_set {ks : List Lk} {r : Nat} (y z : Lk) (h : r ≤ ks.length) : (inK ks r y).set r z = inK ks r z := by
  unfold inK
  rw [List.set_append_right _ _ (by simp; omega)]
  simp [Nat.min_eq_left h]
theorem inK_get {ks : List Lk} {r : Nat} (y : Lk) (h : r ≤ ks.length) : (inK ks r y).getD r Lk.zero = y := by
  simp [inK, List.getD_eq_getElem?_getD, Nat.min_eq_left h]
def newK (node : Int) : Lk := ⟨node, 0, 0, 0, 0, 0⟩
theorem own_any {w w' : World} {B size n : Nat} {e : TypeId} {v : Value} {xs : List Value} (h : w.ownsRow B e size v n xs) (hk : ∀ k, v.ownBlock = some k → w'.heap[k]? = w.heap[k]?) : w'.ownsRow B e size v n xs := by
  refine ⟨h.1, ?_⟩
  rcases h.2 with h4 | ⟨g, C', cur, rfl, h2, h3, h5⟩
  · exact .inl h4
  · exact .inr ⟨g, C', cur, rfl, h2, (hk g rfl).trans h3, h5⟩
end Go.Proofs.YtakgepdlninnhaaDoor.Ln
namespace Go.Proofs.YtakgepdlninnhaaDoor.Ln
open Go.ChangeShapes Go.WideShapes Go.ChangeAt Go.RowKit Base Ro F
/-- The bits of the kinds whose counts are positive. -/
def bitsOf (f : Nat → Int) : Int := (if 0 < f 0 then 1 else 0) + (if 0 < f 1 then 2 else 0) + (if 0 < f 2 then 4 else 0) + (if 0 < f 3 then 8 else 0)
def lnk (cnt : Nat → Nat → Int) (n : Nat) : Lk := ⟨n, bitsOf (cnt n), cnt n 0, cnt n 1, cnt n 2, cnt n 3⟩
def entK (cnt : Nat → Nat → Int) (n : Nat) : List Lk := if bitsOf (cnt n) = 0 then [] else [lnk cnt n]
/-- The links that the counts ask for. -/
def canK (cnt : Nat → Nat → Int) (l : List Nat) : List Lk := l.flatMap (entK cnt)
def upd (cnt : Nat → Nat → Int) (node k : Nat) (v : Int) : Nat → Nat → Int := fun n j => if n = node ∧ j = k then v else cnt n j
theorem entK_nd {cnt : Nat → Nat → Int} {n : Nat} {x : Lk} (h : x ∈ entK cnt n) : x.nd = n ∧ x = lnk cnt n := by
  unfold entK at h
  split at h
  · cases h
  · simp only [List.mem_singleton] at h; subst h; exact ⟨rfl, rfl⟩
theorem canK_mem {cnt : Nat → Nat → Int} {l : List Nat} {x : Lk} (h : x ∈ canK cnt l) : ∃ n, n ∈ l ∧ x.nd = n ∧ x = lnk cnt n := by
  unfold canK at h
  rw [List.mem_flatMap] at h
  obtain ⟨n, hn, hx⟩ := h
  exact ⟨n, hn, entK_nd hx⟩
theorem canK_len (cnt : Nat → Nat → Int) : ∀ l : List Nat, (canK cnt l).length ≤ l.length
  | [] => Nat.le_refl _
  | n :: l => by
    have := canK_len cnt l
    unfold canK at this ⊢
    rw [List.flatMap_cons, List.length_append, List.length_cons]
    have : (entK cnt n).length ≤ 1 := by unfold entK; split <;> simp
    omega
theorem canK_pw (cnt : Nat → Nat → Int) : ∀ l : List Nat, l.Pairwise (· < ·) → (canK cnt l).Pairwise (fun x y => x.nd < y.nd)
  | [], _ => List.Pairwise.nil
  | n :: l, h => by
    rw [List.pairwise_cons] at h
    have ih := canK_pw cnt l h.2
    unfold canK at ih ⊢
    rw [List.flatMap_cons, List.pairwise_append]
    refine ⟨by unfold entK; split <;> simp, ih, fun x hx y hy => ?_⟩
    obtain ⟨m, hm, h1, _⟩ := canK_mem (cnt := cnt) (l := l) (x := y) hy
    have := h.1 m hm
    rw [(entK_nd hx).1, h1]
    omega
theorem pw_up {ks : List Lk} (h : ks.Pairwise (fun x y => x.nd < y.nd)) : UpK ks := by
  intro i j hij hj
  rw [List.pairwise_iff_getElem] at h
  have := h i j (by omega) hj hij
  rw [List.getD_eq_getElem?_getD, List.getD_eq_getElem?_getD, List.getElem?_eq_getElem hj, List.getElem?_eq_getElem (show i < ks.length by omega)]
  exact this
theorem range_lt (N : Nat) : (List.range N).Pairwise (· < ·) := List.pairwise_lt_range
theorem canK_good (cnt : Nat → Nat → Int) {N : Nat} (hN : N ≤ 5000) : GoodK (canK cnt (List.range N)) := by
  refine ⟨pw_up (canK_pw cnt _ (range_lt N)), ?_, fun j hj => ?_⟩
  · have := canK_len cnt (List.range N); rw [List.length_range] at this; omega
  · have hm := List.getElem_mem hj
    obtain ⟨n, h1, h2, _⟩ := canK_mem hm
    rw [List.mem_range] at h1
    rw [List.getD_eq_getElem?_getD, List.getElem?_eq_getElem hj]
    simp only [Option.getD_some]
    omega
/-- All nodes: those ahead of one, the one, those behind. -/
theorem range_cut {N node : Nat} (h : node < N) : ∃ suf, List.range N = List.range node ++ node :: suf ∧ ∀ n ∈ suf, node < n := by
  refine ⟨List.range' (node + 1) (N - node - 1), ?_, fun n hn => by rw [List.mem_range'_1] at hn; omega⟩
  rw [List.range_eq_range', List.range_eq_range', ← List.range'_succ, show N - node - 1 + 1 = N - node by omega]
  have := List.range'_append (s := 0) (m := node) (n := N - node) (step := 1)
  rw [show 0 + 1 * node = node by omega, show node + (N - node) = N by omega] at this
  exact this.symm
theorem canK_app (cnt : Nat → Nat → Int) (l m : List Nat) : canK cnt (l ++ m) = canK cnt l ++ canK cnt m := by simp [canK]
theorem canK_cons (cnt : Nat → Nat → Int) (n : Nat) (m : List Nat) : canK cnt (n :: m) = entK cnt n ++ canK cnt m := by simp [canK]
theorem canK_upd {cnt : Nat → Nat → Int} {node k : Nat} {v : Int} : ∀ {l : List Nat}, (∀ n ∈ l, n ≠ node) → canK (upd cnt node k v) l = canK cnt l
  | [], _ => rfl
  | n :: l, h => by
    rw [canK_cons, canK_cons, canK_upd (fun m hm => h m (List.mem_cons_of_mem _ hm))]
    have : upd cnt node k v n = cnt n := by funext j; simp [upd, h n List.mem_cons_self]
    unfold entK lnk
    rw [this]
theorem canK_fst {cnt : Nat → Nat → Int} {node : Nat} {ent suf : List Lk} (hs : ∀ x ∈ suf, (node : Int) < x.nd) (he : ∀ x ∈ ent, x.nd = node) : Fst (geK (canK cnt (List.range node) ++ (ent ++ suf)) node) (canK cnt (List.range node) ++ (ent ++ suf)).length (canK cnt (List.range node)).length := by
  refine ⟨by simp, fun j hj => ?_, fun j hj hl => ?_⟩
  · have hm := List.getElem_mem hj
    obtain ⟨n, h1, h2, _⟩ := canK_mem hm
    rw [List.mem_range] at h1
    unfold geK
    rw [List.getD_eq_getElem?_getD, List.getElem?_append_left hj, List.getElem?_eq_getElem hj]
    simp only [Option.getD_some, decide_eq_false_iff_not]
    omega
  · rw [List.length_append] at hl
    have hj2 : j - (canK cnt (List.range node)).length < (ent ++ suf).length := by omega
    have hm := List.getElem_mem hj2
    unfold geK
    rw [List.getD_eq_getElem?_getD, List.getElem?_append_right hj, List.getElem?_eq_getElem hj2]
    simp only [Option.getD_some, decide_eq_true_eq]
    rcases List.mem_append.1 hm with h | h
    · rw [he _ h]; omega
    · have := hs _ h; omega
theorem bit_w (k : Nat) (hk : k < 4) : IntKind.i16.wrap (2 ^ k) = (2 ^ k : Int) := by
  match k, hk with
  | 0, _ => decide
  | 1, _ => decide
  | 2, _ => decide
  | 3, _ => decide
theorem bit_out (f : Nat → Int) (k : Nat) (hk : k < 4) (v : Int) (hv : ¬ 0 < v) : bits .andNot .i16 (bitsOf f) (2 ^ k) = bitsOf (fun j => if j = k then v else f j) := by
  unfold bitsOf
  match k, hk with
  | 0, _ => simp only [if_neg hv, if_true, show ¬ (1 : Nat) = 0 by omega, show ¬ (2 : Nat) = 0 by omega, show ¬ (3 : Nat) = 0 by omega, if_false]; by_cases h0 : 0 < f 0 <;> by_cases h1 : 0 < f 1 <;> by_cases h2 : 0 < f 2 <;> by_cases h3 : 0 < f 3 <;> simp only [h0, h1, h2, h3, if_true, if_false] <;> decide
  | 1, _ => simp only [if_neg hv, if_true, show ¬ (0 : Nat) = 1 by omega, show ¬ (2 : Nat) = 1 by omega, show ¬ (3 : Nat) = 1 by omega, if_false]; by_cases h0 : 0 < f 0 <;> by_cases h1 : 0 < f 1 <;> by_cases h2 : 0 < f 2 <;> by_cases h3 : 0 < f 3 <;> simp only [h0, h1, h2, h3, if_true, if_false] <;> decide
  | 2, _ => simp only [if_neg hv, if_true, show ¬ (1 : Nat) = 2 by omega, show ¬ (0 : Nat) = 2 by omega, show ¬ (3 : Nat) = 2 by omega, if_false]; by_cases h0 : 0 < f 0 <;> by_cases h1 : 0 < f 1 <;> by_cases h2 : 0 < f 2 <;> by_cases h3 : 0 < f 3 <;> simp only [h0, h1, h2, h3, if_true, if_false] <;> decide
  | 3, _ => simp only [if_neg hv, if_true, show ¬ (1 : Nat) = 3 by omega, show ¬ (2 : Nat) = 3 by omega, show ¬ (0 : Nat) = 3 by omega, if_false]; by_cases h0 : 0 < f 0 <;> by_cases h1 : 0 < f 1 <;> by_cases h2 : 0 < f 2 <;> by_cases h3 : 0 < f 3 <;> simp only [h0, h1, h2, h3, if_true, if_false] <;> decide
theorem bit_in (f : Nat → Int) (k : Nat) (hk : k < 4) (u v : Int) (hu : ¬ 0 < u) (hv : 0 < v) : bits .or .i16 (bitsOf (fun j => if j = k then u else f j)) (2 ^ k) = bitsOf (fun j => if j = k then v else f j) := by
  unfold bitsOf
  match k, hk with
  | 0, _ => simp only [if_neg hu, if_pos hv, if_true, show ¬ (1 : Nat) = 0 by omega, show ¬ (2 : Nat) = 0 by omega, show ¬ (3 : Nat) = 0 by omega, if_false]; by_cases h1 : 0 < f 1 <;> by_cases h2 : 0 < f 2 <;> by_cases h3 : 0 < f 3 <;> simp only [h1, h2, h3, if_true, if_false] <;> decide
  | 1, _ => simp only [if_neg hu, if_pos hv, if_true, show ¬ (0 : Nat) = 1 by omega, show ¬ (2 : Nat) = 1 by omega, show ¬ (3 : Nat) = 1 by omega, if_false]; by_cases h0 : 0 < f 0 <;> by_cases h2 : 0 < f 2 <;> by_cases h3 : 0 < f 3 <;> simp only [h0, h2, h3, if_true, if_false] <;> decide
  | 2, _ => simp only [if_neg hu, if_pos hv, if_true, show ¬ (1 : Nat) = 2 by omega, show ¬ (0 : Nat) = 2 by omega, show ¬ (3 : Nat) = 2 by omega, if_false]; by_cases h0 : 0 < f 0 <;> by_cases h1 : 0 < f 1 <;> by_cases h3 : 0 < f 3 <;> simp only [h0, h1, h3, if_true, if_false] <;> decide
  | 3, _ => simp only [if_neg hu, if_pos hv, if_true, show ¬ (1 : Nat) = 3 by omega, show ¬ (2 : Nat) = 3 by omega, show ¬ (0 : Nat) = 3 by omega, if_false]; by_cases h0 : 0 < f 0 <;> by_cases h1 : 0 < f 1 <;> by_cases h2 : 0 < f 2 <;> simp only [h0, h1, h2, if_true, if_false] <;> decide
theorem upd_at (cnt : Nat → Nat → Int) (node k : Nat) (v : Int) : upd cnt node k v node = fun j => if j = k then v else cnt node j := by
  funext j; simp [upd]
theorem lnk_upd (cnt : Nat → Nat → Int) (node k : Nat) (hk : k < 4) (v : Int) : setkK (setcK (lnk cnt node) k v) (bitsOf (upd cnt node k v node)) = lnk (upd cnt node k v) node := by
  unfold lnk
  rw [upd_at]
  match k, hk with
  | 0, _ => simp [setkK, setcK]
  | 1, _ => simp [setkK, setcK]
  | 2, _ => simp [setkK, setcK]
  | 3, _ => simp [setkK, setcK]
theorem cnt_lnk (cnt : Nat → Nat → Int) (node k : Nat) (hk : k < 4) : cntK (lnk cnt node) k = cnt node k := by
  match k, hk with
  | 0, _ => rfl
  | 1, _ => rfl
  | 2, _ => rfl
  | 3, _ => rfl
theorem setCell_self {w : World} {nb i : Nat} {V : Value} (h : w.cell? ⟨nb, i, none⟩ = some V) : (w.setCell ⟨nb, i, none⟩ V).heap[nb]? = w.heap[nb]? := by
  simp only [World.setCell, Array.getElem?_modify, if_true]
  unfold World.cell? at h
  cases hh : w.heap[nb]? with
  | none => rfl
  | some o =>
    rw [hh] at h
    cases o with
    | cells c e ph =>
      simp only [Option.isSome_none, Bool.false_eq_true, if_false] at h
      have : c.setIfInBounds i V = c := by
        apply Array.ext (by simp)
        intro j h1 h2
        rw [Array.getElem_setIfInBounds h2]
        split
        · rename_i he; subst he; rw [Array.getElem?_eq_getElem h2] at h; exact (Option.some.inj h).symm
        · rfl
      show some (Obj.cells (c.setIfInBounds i V) e ph) = some (Obj.cells c e ph)
      rw [this]
    | _ => cases h
end Go.Proofs.YtakgepdlninnhaaDoor.Ln
namespace Go.Proofs.YtakgepdlninnhaaDoor.Ln
open Go.ChangeShapes Go.WideShapes Go.ChangeAt Go.RowKit Base Ro F
theorem bitsOf_pos {f : Nat → Int} {k : Nat} (hk : k < 4) (h : 0 < f k) : bitsOf f ≠ 0 := by
  unfold bitsOf
  match k, hk with
  | 0, _ => rw [if_pos h]; split <;> split <;> split <;> omega
  | 1, _ => rw [if_pos h]; split <;> split <;> split <;> omega
  | 2, _ => rw [if_pos h]; split <;> split <;> split <;> omega
  | 3, _ => rw [if_pos h]; split <;> split <;> split <;> omega
theorem upd_same (cnt : Nat → Nat → Int) (node k : Nat) : upd cnt node k (cnt node k) = cnt := by
  funext n j
  unfold upd
  split
  · rename_i h; rw [h.1, h.2]
  · rfl
end Go.Proofs.YtakgepdlninnhaaDoor.Ln
