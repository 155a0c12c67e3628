/-
  Walks: parts of lists of edges. Not a statement of the seat.
-/
import Derived.Test.YtjknnbeemcpppaaDoorWk1
import Derived.Laws.Slices
namespace Go.Proofs.YtjknnbeemcpppaaDoor.Wk
open Go.ChangeShapes Go.WideShapes Go.ChangeAt Go.RowKit Base Pk F
/-- A slice has no more than it can hold; one of nothing holds nothing. -/
def Capd (v : Value) : Prop := ∀ p n c, v = .slice p n c → n ≤ c ∧ (p = none → c = 0)
theorem sizeE (w : World) : (sizeOf 32).run Tryd.prog w = .ok 4 w := by kernel_rfl
theorem elemE : Tryd.prog.underlying 22 = some (.slice (Tryd.prog.elem 22)) := by kernel_rfl
theorem elemE' : Tryd.prog.elem 22 = 32 := by kernel_rfl
theorem slice_take (p : Option Addr) (n c k : Nat) (h : k ≤ c) (wx : World) : (Instr.sliceAt 22 (.slice p n c) none (some (.int .i64 (k : Int))) none).run Tryd.prog wx = .ok (.slice p k c) wx := by
  rw [run_sliceAt_slice _ _ _ _ _ _ elemE, run_slice_h wx _ _ _ _ elemE _ _ (by omega) (by omega), elemE', sizeE]
  simp only [Result.andThen, sliced]
  congr 1
  cases p with
  | none => simp
  | some a => simp [Addr.add]
theorem slice_drop (p : Option Addr) (n c k : Nat) (h : k ≤ n) (wx : World) : (Instr.sliceAt 22 (.slice p n c) (some (.int .i64 (k : Int))) none none).run Tryd.prog wx = .ok (sliced p k n c 4) wx := by
  rw [run_sliceAt_slice _ _ _ _ _ _ elemE, run_slice_l wx _ _ _ _ elemE _ _ (by omega) (by omega), elemE', sizeE]
  rfl
theorem sliced_form (p : Option Addr) (k n c : Nat) : ∃ q, sliced p k n c 4 = .slice q (n - k) (c - k) := ⟨_, rfl⟩
theorem eds_part {W : World} {p : Option Addr} {n c : Nat} {xs : List E} (h : Eds W (.slice p n c) xs) (lo hi : Nat) (h1 : lo ≤ hi) (h2 : hi ≤ n) (h3 : n ≤ c) : Eds W (sliced p lo hi c 4) ((xs.drop lo).take (hi - lo)) := by
  by_cases he : lo = hi
  · refine .inl ⟨?_, by subst he; simp⟩
    unfold sliced
    subst he
    exact ⟨_, _, by simp; exact ⟨rfl, rfl⟩⟩
  · rcases h with ⟨⟨p', c', hv⟩, rfl⟩ | ⟨g, o, c', hv, a1, a2, a3⟩
    · have : n = 0 := by injection hv
      omega
    · injection hv with e1 e2 e3
      subst e1 e2 e3
      have hl : ((xs.drop lo).take (hi - lo)).length = hi - lo := by rw [List.length_take, List.length_drop]; omega
      refine .inr ⟨g, o + lo * 4, c - lo, ?_, a1, by omega, fun k hk => ?_⟩
      · rw [hl]
        unfold sliced
        have h9 : ¬ c = lo := by omega
        by_cases h0 : lo = 0
        · subst h0; simp [h9, Addr.add]
        · simp [h9, Addr.add]; omega
      · rw [hl] at hk
        have e : ((xs.drop lo).take (hi - lo)).getD k zE = xs.getD (lo + k) zE := by
          rw [List.getD_eq_getElem?_getD, List.getD_eq_getElem?_getD, List.getElem?_take, if_pos hk, List.getElem?_drop]
        rw [e, show o + lo * 4 + k * 4 = o + (lo + k) * 4 by omega]
        exact a3 (lo + k) (by omega)
theorem eds_take {W : World} {p : Option Addr} {n c : Nat} {xs : List E} (h : Eds W (.slice p n c) xs) (k : Nat) (h2 : k ≤ n) (h3 : n ≤ c) : Eds W (.slice p k c) (xs.take k) := by
  have := eds_part h 0 k (Nat.zero_le _) h2 h3
  have e : sliced p 0 k c 4 = .slice p k c := by
    unfold sliced
    cases p with
    | none => simp
    | some a => simp [Addr.add]
  rw [e] at this
  simpa using this
theorem eds_drop {W : World} {p : Option Addr} {n c : Nat} {xs : List E} (h : Eds W (.slice p n c) xs) (hn : xs.length = n) (k : Nat) (h2 : k ≤ n) (h3 : n ≤ c) : Eds W (sliced p k n c 4) (xs.drop k) := by
  have := eds_part h k n h2 (Nat.le_refl _) h3
  rwa [List.take_of_length_le (by rw [List.length_drop]; omega)] at this
theorem sliced_capd {p : Option Addr} {n c : Nat} (h : n ≤ c ∧ (p = none → c = 0)) (lo hi : Nat) (h1 : lo ≤ hi) (h2 : hi ≤ n) : Capd (sliced p lo hi c 4) := by
  intro q m d e
  unfold sliced at e
  injection e with e1 e2 e3
  refine ⟨by omega, fun hq => ?_⟩
  subst hq
  cases p with
  | none => have := h.2 rfl; omega
  | some a => split at e1 <;> simp at e1
theorem take_capd {p : Option Addr} {n c : Nat} (h : n ≤ c ∧ (p = none → c = 0)) (k : Nat) (h2 : k ≤ n) : Capd (.slice p k c) := by
  intro q m d e
  injection e with e1 e2 e3
  subst e1 e2 e3
  exact ⟨by omega, h.2⟩
end Go.Proofs.YtjknnbeemcpppaaDoor.Wk
