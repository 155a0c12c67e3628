/-
  Links told by counts: what change makes of them. Not a statement of the seat.
-/
import Derived.Test.YtimgdkafennohaaHead11
import Derived.Test.YtimgdkafennohaaLk5
namespace Go.Proofs.Ytimgdkafennohaa.Ln
open Go.ChangeShapes Go.WideShapes Go.ChangeAt Go.RowKit Base Ro F
/-- The bits of the kinds whose counts are positive. -/
def bitsOf (f : Nat → Int) : Int := (if 0 < f 0 then 1 else 0) + (if 0 < f 1 then 2 else 0) + (if 0 < f 2 then 4 else 0) + (if 0 < f 3 then 8 else 0)
def lnk (cnt : Nat → Nat → Int) (n : Nat) : Lk := ⟨n, bitsOf (cnt n), cnt n 0, cnt n 1, cnt n 2, cnt n 3⟩
def entK (cnt : Nat → Nat → Int) (n : Nat) : List Lk := if bitsOf (cnt n) = 0 then [] else [lnk cnt n]
/-- The links that the counts ask for. -/
def canK (cnt : Nat → Nat → Int) (l : List Nat) : List Lk := l.flatMap (entK cnt)
def upd (cnt : Nat → Nat → Int) (node k : Nat) (v : Int) : Nat → Nat → Int := fun n j => if n = node ∧ j = k then v else cnt n j
theorem entK_nd {cnt : Nat → Nat → Int} {n : Nat} {x : Lk} (h : x ∈ entK cnt n) : x.nd = n ∧ x = lnk cnt n := by
  unfold entK at h
  split at h
  · cases h
  · simp only [List.mem_singleton] at h; subst h; exact ⟨rfl, rfl⟩
theorem canK_mem {cnt : Nat → Nat → Int} {l : List Nat} {x : Lk} (h : x ∈ canK cnt l) : ∃ n, n ∈ l ∧ x.nd = n ∧ x = lnk cnt n := by
  unfold canK at h
  rw [List.mem_flatMap] at h
  obtain ⟨n, hn, hx⟩ := h
  exact ⟨n, hn, entK_nd hx⟩
theorem canK_len (cnt : Nat → Nat → Int) : ∀ l : List Nat, (canK cnt l).length ≤ l.length
  | [] => Nat.le_refl _
  | n :: l => by
    have := canK_len cnt l
    unfold canK at this ⊢
    rw [List.flatMap_cons, List.length_append, List.length_cons]
    have : (entK cnt n).length ≤ 1 := by unfold entK; split <;> simp
    omega
theorem canK_pw (cnt : Nat → Nat → Int) : ∀ l : List Nat, l.Pairwise (· < ·) → (canK cnt l).Pairwise (fun x y => x.nd < y.nd)
  | [], _ => List.Pairwise.nil
  | n :: l, h => by
    rw [List.pairwise_cons] at h
    have ih := canK_pw cnt l h.2
    unfold canK at ih ⊢
    rw [List.flatMap_cons, List.pairwise_append]
    refine ⟨by unfold entK; split <;> simp, ih, fun x hx y hy => ?_⟩
    obtain ⟨m, hm, h1, _⟩ := canK_mem (cnt := cnt) (l := l) (x := y) hy
    have := h.1 m hm
    rw [(entK_nd hx).1, h1]
    omega
theorem pw_up {ks : List Lk} (h : ks.Pairwise (fun x y => x.nd < y.nd)) : UpK ks := by
  intro i j hij hj
  rw [List.pairwise_iff_getElem] at h
  have := h i j (by omega) hj hij
  rw [List.getD_eq_getElem?_getD, List.getD_eq_getElem?_getD, List.getElem?_eq_getElem hj, List.getElem?_eq_getElem (show i < ks.length by omega)]
  exact this
theorem range_lt (N : Nat) : (List.range N).Pairwise (· < ·) := List.pairwise_lt_range
theorem canK_good (cnt : Nat → Nat → Int) {N : Nat} (hN : N ≤ 5000) : GoodK (canK cnt (List.range N)) := by
  refine ⟨pw_up (canK_pw cnt _ (range_lt N)), ?_, fun j hj => ?_⟩
  · have := canK_len cnt (List.range N); rw [List.length_range] at this; omega
  · have hm := List.getElem_mem hj
    obtain ⟨n, h1, h2, _⟩ := canK_mem hm
    rw [List.mem_range] at h1
    rw [List.getD_eq_getElem?_getD, List.getElem?_eq_getElem hj]
    simp only [Option.getD_some]
    omega
/-- All nodes: those ahead of one, the one, those behind. -/
theorem range_cut {N node : Nat} (h : node < N) : ∃ suf, List.range N = List.range node ++ node :: suf ∧ ∀ n ∈ suf, node < n := by
  refine ⟨List.range' (node + 1) (N - node - 1), ?_, fun n hn => by rw [List.mem_range'_1] at hn; omega⟩
  rw [List.range_eq_range', List.range_eq_range', ← List.range'_succ, show N - node - 1 + 1 = N - node by omega]
  have := List.range'_append (s := 0) (m := node) (n := N - node) (step := 1)
  rw [show 0 + 1 * node = node by omega, show node + (N - node) = N by omega] at this
  exact this.symm
theorem canK_app (cnt : Nat → Nat → Int) (l m : List Nat) : canK cnt (l ++ m) = canK cnt l ++ canK cnt m := by simp [canK]
theorem canK_cons (cnt : Nat → Nat → Int) (n : Nat) (m : List Nat) : canK cnt (n :: m) = entK cnt n ++ canK cnt m := by simp [canK]
theorem canK_upd {cnt : Nat → Nat → Int} {node k : Nat} {v : Int} : ∀ {l : List Nat}, (∀ n ∈ l, n ≠ node) → canK (upd cnt node k v) l = canK cnt l
  | [], _ => rfl
  | n :: l, h => by
    rw [canK_cons, canK_cons, canK_upd (fun m hm => h m (List.mem_cons_of_mem _ hm))]
    have : upd cnt node k v n = cnt n := by funext j; simp [upd, h n List.mem_cons_self]
    unfold entK lnk
    rw [this]
theorem canK_fst {cnt : Nat → Nat → Int} {node : Nat} {ent suf : List Lk} (hs : ∀ x ∈ suf, (node : Int) < x.nd) (he : ∀ x ∈ ent, x.nd = node) : Fst (geK (canK cnt (List.range node) ++ (ent ++ suf)) node) (canK cnt (List.range node) ++ (ent ++ suf)).length (canK cnt (List.range node)).length := by
  refine ⟨by simp, fun j hj => ?_, fun j hj hl => ?_⟩
  · have hm := List.getElem_mem hj
    obtain ⟨n, h1, h2, _⟩ := canK_mem hm
    rw [List.mem_range] at h1
    unfold geK
    rw [List.getD_eq_getElem?_getD, List.getElem?_append_left hj, List.getElem?_eq_getElem hj]
    simp only [Option.getD_some, decide_eq_false_iff_not]
    omega
  · rw [List.length_append] at hl
    have hj2 : j - (canK cnt (List.range node)).length < (ent ++ suf).length := by omega
    have hm := List.getElem_mem hj2
    unfold geK
    rw [List.getD_eq_getElem?_getD, List.getElem?_append_right hj, List.getElem?_eq_getElem hj2]
    simp only [Option.getD_some, decide_eq_true_eq]
    rcases List.mem_append.1 hm with h | h
    · rw [he _ h]; omega
    · have := hs _ h; omega
theorem bit_w (k : Nat) (hk : k < 4) : IntKind.i16.wrap (2 ^ k) = (2 ^ k : Int) := by
  match k, hk with
  | 0, _ => decide
  | 1, _ => decide
  | 2, _ => decide
  | 3, _ => decide
theorem bit_out (f : Nat → Int) (k : Nat) (hk : k < 4) (v : Int) (hv : ¬ 0 < v) : bits .andNot .i16 (bitsOf f) (2 ^ k) = bitsOf (fun j => if j = k then v else f j) := by
  unfold bitsOf
  match k, hk with
  | 0, _ => simp only [if_neg hv, if_true, show ¬ (1 : Nat) = 0 by omega, show ¬ (2 : Nat) = 0 by omega, show ¬ (3 : Nat) = 0 by omega, if_false]; by_cases h0 : 0 < f 0 <;> by_cases h1 : 0 < f 1 <;> by_cases h2 : 0 < f 2 <;> by_cases h3 : 0 < f 3 <;> simp only [h0, h1, h2, h3, if_true, if_false] <;> decide
  | 1, _ => simp only [if_neg hv, if_true, show ¬ (0 : Nat) = 1 by omega, show ¬ (2 : Nat) = 1 by omega, show ¬ (3 : Nat) = 1 by omega, if_false]; by_cases h0 : 0 < f 0 <;> by_cases h1 : 0 < f 1 <;> by_cases h2 : 0 < f 2 <;> by_cases h3 : 0 < f 3 <;> simp only [h0, h1, h2, h3, if_true, if_false] <;> decide
  | 2, _ => simp only [if_neg hv, if_true, show ¬ (1 : Nat) = 2 by omega, show ¬ (0 : Nat) = 2 by omega, show ¬ (3 : Nat) = 2 by omega, if_false]; by_cases h0 : 0 < f 0 <;> by_cases h1 : 0 < f 1 <;> by_cases h2 : 0 < f 2 <;> by_cases h3 : 0 < f 3 <;> simp only [h0, h1, h2, h3, if_true, if_false] <;> decide
  | 3, _ => simp only [if_neg hv, if_true, show ¬ (1 : Nat) = 3 by omega, show ¬ (2 : Nat) = 3 by omega, show ¬ (0 : Nat) = 3 by omega, if_false]; by_cases h0 : 0 < f 0 <;> by_cases h1 : 0 < f 1 <;> by_cases h2 : 0 < f 2 <;> by_cases h3 : 0 < f 3 <;> simp only [h0, h1, h2, h3, if_true, if_false] <;> decide
theorem bit_in (f : Nat → Int) (k : Nat) (hk : k < 4) (u v : Int) (hu : ¬ 0 < u) (hv : 0 < v) : bits .or .i16 (bitsOf (fun j => if j = k then u else f j)) (2 ^ k) = bitsOf (fun j => if j = k then v else f j) := by
  unfold bitsOf
  match k, hk with
  | 0, _ => simp only [if_neg hu, if_pos hv, if_true, show ¬ (1 : Nat) = 0 by omega, show ¬ (2 : Nat) = 0 by omega, show ¬ (3 : Nat) = 0 by omega, if_false]; by_cases h1 : 0 < f 1 <;> by_cases h2 : 0 < f 2 <;> by_cases h3 : 0 < f 3 <;> simp only [h1, h2, h3, if_true, if_false] <;> decide
  | 1, _ => simp only [if_neg hu, if_pos hv, if_true, show ¬ (0 : Nat) = 1 by omega, show ¬ (2 : Nat) = 1 by omega, show ¬ (3 : Nat) = 1 by omega, if_false]; by_cases h0 : 0 < f 0 <;> by_cases h2 : 0 < f 2 <;> by_cases h3 : 0 < f 3 <;> simp only [h0, h2, h3, if_true, if_false] <;> decide
  | 2, _ => simp only [if_neg hu, if_pos hv, if_true, show ¬ (1 : Nat) = 2 by omega, show ¬ (0 : Nat) = 2 by omega, show ¬ (3 : Nat) = 2 by omega, if_false]; by_cases h0 : 0 < f 0 <;> by_cases h1 : 0 < f 1 <;> by_cases h3 : 0 < f 3 <;> simp only [h0, h1, h3, if_true, if_false] <;> decide
  | 3, _ => simp only [if_neg hu, if_pos hv, if_true, show ¬ (1 : Nat) = 3 by omega, show ¬ (2 : Nat) = 3 by omega, show ¬ (0 : Nat) = 3 by omega, if_false]; by_cases h0 : 0 < f 0 <;> by_cases h1 : 0 < f 1 <;> by_cases h2 : 0 < f 2 <;> simp only [h0, h1, h2, if_true, if_false] <;> decide
theorem upd_at (cnt : Nat → Nat → Int) (node k : Nat) (v : Int) : upd cnt node k v node = fun j => if j = k then v else cnt node j := by
  funext j; simp [upd]
theorem lnk_upd (cnt : Nat → Nat → Int) (node k : Nat) (hk : k < 4) (v : Int) : setkK (setcK (lnk cnt node) k v) (bitsOf (upd cnt node k v node)) = lnk (upd cnt node k v) node := by
  unfold lnk
  rw [upd_at]
  match k, hk with
  | 0, _ => simp [setkK, setcK]
  | 1, _ => simp [setkK, setcK]
  | 2, _ => simp [setkK, setcK]
  | 3, _ => simp [setkK, setcK]
theorem cnt_lnk (cnt : Nat → Nat → Int) (node k : Nat) (hk : k < 4) : cntK (lnk cnt node) k = cnt node k := by
  match k, hk with
  | 0, _ => rfl
  | 1, _ => rfl
  | 2, _ => rfl
  | 3, _ => rfl
theorem setCell_self {w : World} {nb i : Nat} {V : Value} (h : w.cell? ⟨nb, i, none⟩ = some V) : (w.setCell ⟨nb, i, none⟩ V).heap[nb]? = w.heap[nb]? := by
  simp only [World.setCell, Array.getElem?_modify, if_true]
  unfold World.cell? at h
  cases hh : w.heap[nb]? with
  | none => rfl
  | some o =>
    rw [hh] at h
    cases o with
    | cells c e ph =>
      simp only [Option.isSome_none, Bool.false_eq_true, if_false] at h
      have : c.setIfInBounds i V = c := by
        apply Array.ext (by simp)
        intro j h1 h2
        rw [Array.getElem_setIfInBounds h2]
        split
        · rename_i he; subst he; rw [Array.getElem?_eq_getElem h2] at h; exact (Option.some.inj h).symm
        · rfl
      show some (Obj.cells (c.setIfInBounds i V) e ph) = some (Obj.cells c e ph)
      rw [this]
    | _ => cases h
/-- What stays where it is, told as ChgP does. -/
theorem chg_stay {B nb i g n cap : Nat} {ks' : List Lk} {w : World} (hV : w.cell? ⟨nb, i, none⟩ = some (.slice (some ⟨g, 0, none⟩) n cap)) (hnb : nb < w.heap.size) (hne : nb ≠ g) (e : Ending) (w' : World)
    (h : e = .returned (.tuple #[]) ∧ OwnK B w' (.slice (some ⟨g, 0, none⟩) n cap) ks' ∧ Fr (fun h => h = g) w w') : ChgP B nb i (.slice (some ⟨g, 0, none⟩) n cap) ks' w e w' := by
  obtain ⟨h1, h2, h3⟩ := h
  refine ⟨h1, _, h2, .inl rfl, ?_, h3.1, h3.2.1, h3.2.2.1, h3.2.2.2.1, fun k hk hn => h3.2.2.2.2 k hk (fun e => hn (.inl ?_))⟩
  · rw [setCell_self hV]; exact h3.block hnb hne
  · rw [e]; rfl
end Go.Proofs.Ytimgdkafennohaa.Ln
