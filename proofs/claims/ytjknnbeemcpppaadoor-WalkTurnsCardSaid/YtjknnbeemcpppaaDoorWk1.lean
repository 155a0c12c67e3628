/-
  Walks: what is asked of them, pure; contracts of small functions. Not a statement of the seat.
-/
import Derived.Test.YtjknnbeemcpppaaDoorWkL
import Derived.Test.YtjknnbeemcpppaaDoorPkSame
import Derived.Test.YtjknnbeemcpppaaDoorFrame
import Derived.Deep.QuietTactic
namespace Go.Proofs.YtjknnbeemcpppaaDoor.Wk
open Go.ChangeShapes Go.WideShapes Go.ChangeAt Go.RowKit Base Pk F
theorem totL : Tot ltE := ⟨lt_irr, fun _ _ _ => lt_tr, fun x y => by
  cases h1 : ltE x y
  · cases h2 : ltE y x
    · exact .inr (.inl (lt_eq h1 h2))
    · exact .inr (.inr rfl)
  · exact .inl rfl⟩
/-- One edge ends where the other one begins. -/
def joins (x y : E) : Prop := x.2.1 = y.1
instance (x y : E) : Decidable (joins x y) := inferInstanceAs (Decidable (x.2.1 = y.1))
def closedP (l : List E) : Prop := 0 < l.length ∧ ∀ t, t < l.length → joins (l.getD t zE) (l.getD ((t + 1) % l.length) zE)
instance (l : List E) : Decidable (closedP l) := inferInstanceAs (Decidable (_ ∧ _))
def closedL (l : List E) : Bool := decide (closedP l)
theorem closed_turn (l : List E) : closedL (turnL ltE l) = closedL l := by
  unfold closedL
  rw [decide_eq_decide]
  unfold closedP
  rw [turn_len totL]
  refine and_congr_right fun h0 => ?_
  have h1 := ring_iff (z := zE) (p := joins) (l := turnL ltE l) (by rw [turn_len totL]; exact h0)
  rw [turn_len totL] at h1
  rw [← h1, ← ring_iff (z := zE) (p := joins) h0, ring_turn totL h0]
/-- An edge that lies in a list, box and all. -/
theorem eds_at {w : World} {v : Value} {l : List E} (h : Eds w v l) {n : Nat} (hn : l.length = n) : ∃ p c, v = .slice p n c ∧ ∀ i, i < n → ∃ g o, p = some ⟨g, o, none⟩ ∧ ∀ X, Below w.heap.size w X → g < X.heap.size ∧ X.cell? ⟨g, o + i * 4, none⟩ = some (.int .i64 (l.getD i zE).1) ∧ X.cell? ⟨g, o + i * 4 + 1, none⟩ = some (.int .i64 (l.getD i zE).2.1) ∧ X.cell? ⟨g, o + i * 4 + 2, none⟩ = some (.int .i64 (l.getD i zE).2.2.1) ∧ X.cell? ⟨g, o + i * 4 + 3, none⟩ = some (.int .i64 (l.getD i zE).2.2.2) := by
  subst hn
  obtain ⟨p, c, hv, _, hc⟩ := h.open_
  refine ⟨p, c, hv, fun i hi => ?_⟩
  obtain ⟨g, o, hp, hg, h0, h1, h2, h3⟩ := hc i hi
  exact ⟨g, o, hp, fun X hX => ⟨Nat.lt_of_lt_of_le hg hX.size, (hX.cell (p := ⟨g, _, none⟩) hg).trans h0, (hX.cell (p := ⟨g, _, none⟩) hg).trans h1, (hX.cell (p := ⟨g, _, none⟩) hg).trans h2, (hX.cell (p := ⟨g, _, none⟩) hg).trans h3⟩⟩
/-- What a call that tells a Boolean leaves. -/
def BoolP (r : Bool) (w : World) (e : Ending) (w' : World) : Prop := e = .returned (.bool r) ∧ Below w.heap.size w w'
theorem alloc_bel (w : World) (o : Obj) : Below w.heap.size w (w.alloc o) := (Below.refl _ _).alloc (Nat.le_refl _) o
theorem isKind_any (k : Int) (w : World) : Calls Tryd.prog 22 #[.int .i64 k] w fun e w' => e = .returned (.bool (decide (1 ≤ k ∧ k < 4))) ∧ w = w' := by
  by_cases h1 : 1 ≤ k
  · by_cases h2 : k < 4
    · rw [decide_eq_true ⟨h1, h2⟩]
      go_enter Tryd.func22, Tryd.ntmps22
      go_wp2
      go_ret
      exact ⟨rfl, rfl⟩
    · rw [decide_eq_false (fun e => h2 e.2)]
      go_enter Tryd.func22, Tryd.ntmps22
      go_wp2
      go_ret
      exact ⟨rfl, rfl⟩
  · rw [decide_eq_false (fun e => h1 e.1)]
    go_enter Tryd.func22, Tryd.ntmps22
    go_wp2
    go_ret
    exact ⟨rfl, rfl⟩
def cmpW (x y : E) : Int := if ltE x y then -1 else if ltE y x then 1 else 0
def vE (x : E) : Value := .agg #[.int .i64 x.1, .int .i64 x.2.1, .int .i64 x.2.2.1, .int .i64 x.2.2.2]
theorem boxE_at {w : World} {g : Nat} {x : E} (h : w.heap[g]? = some (boxE x)) : w.cell? ⟨g, 0, none⟩ = some (.int .i64 x.1) ∧ w.cell? ⟨g, 1, none⟩ = some (.int .i64 x.2.1) ∧ w.cell? ⟨g, 2, none⟩ = some (.int .i64 x.2.2.1) ∧ w.cell? ⟨g, 3, none⟩ = some (.int .i64 x.2.2.2) := by
  unfold boxE at h
  simp [World.cell?, h]
set_option maxRecDepth 100000 in
theorem compare_wk (x y : E) (w : World) : Calls Tryd.prog 24 #[vE x, vE y] w fun e w' => e = .returned (.int .i64 (cmpW x y)) ∧ Below w.heap.size w w' := by
  obtain ⟨w1, hw1⟩ : ∃ X, X = (w.alloc (boxE x)).alloc (boxE y) := ⟨_, rfl⟩
  have hb1 : Below w.heap.size w w1 := by rw [hw1]; exact ((Below.refl _ _).alloc (Nat.le_refl _) _).alloc (by simp) _
  have hx : w1.heap[w.heap.size]? = some (boxE x) := by rw [hw1]; exact heap_alloc_lt _ _ _ _ (heap_alloc_at _ _ _ rfl)
  have hy : w1.heap[w.heap.size + 1]? = some (boxE y) := by rw [hw1]; exact heap_alloc_at _ _ _ (by simp)
  have H1 := Lib.hid (less_any x y w1)
  have HL2 := Lib.hid (fun W => less_any y x W)
  have HC : Hid (cmpW x y = if ltE x y then -1 else if ltE y x then 1 else 0) := Lib.hid rfl
  have HB := Lib.hid hb1
  have HX := Lib.hid (And.intro hx hy)
  obtain ⟨a0, a1, a2, a3⟩ := boxE_at hx
  obtain ⟨b0, b1, b2, b3⟩ := boxE_at hy
  have hl1 := heap_lt hx
  have hl2 := heap_lt hy
  obtain ⟨x0, x1, x2, x3⟩ := x
  obtain ⟨y0, y1, y2, y3⟩ := y
  unfold vE
  unfold boxE at hw1
  dsimp only at H1 HL2 a0 a1 a2 a3 b0 b1 b2 b3 hw1 ⊢
  generalize ltE (x0, x1, x2, x3) (y0, y1, y2, y3) = r at H1 HC
  generalize ltE (y0, y1, y2, y3) (x0, x1, x2, x3) = s at HL2 HC
  generalize cmpW (x0, x1, x2, x3) (y0, y1, y2, y3) = c at HC ⊢
  clear hx hy hb1
  cases r with
  | true =>
    have hc : c = -1 := HC.out
    subst hc
    go_enter Tryd.func24, Tryd.ntmps24
    go_wp2_with fail
    rw [← hw1]
    clear hw1
    refine H1.out.mono ?_
    rintro e w2 ⟨rfl, hg⟩
    have HR := Lib.hid (HB.out.trans (hg.below.mono HB.out.size))
    clear hg
    go_wp2
    go_ret
    exact ⟨rfl, HR.out⟩
  | false =>
    have HH : Hid (c = if s then 1 else 0) := Lib.hid (by have := HC.out; simpa using this)
    go_enter Tryd.func24, Tryd.ntmps24
    go_wp2_with fail
    rw [← hw1]
    clear hw1
    refine H1.out.mono ?_
    rintro e w2 ⟨rfl, hg⟩
    have HB2 := Lib.hid (HB.out.trans (hg.below.mono HB.out.size))
    have k1 := keep_block hg.below HX.out.1
    have k2 := keep_block hg.below HX.out.2
    obtain ⟨c0, c1, c2, c3⟩ := boxE_at k1
    obtain ⟨d0, d1, d2, d3⟩ := boxE_at k2
    have hm1 := heap_lt k1
    have hm2 := heap_lt k2
    dsimp only at c0 c1 c2 c3 d0 d1 d2 d3
    clear hg k1 k2 a0 a1 a2 a3 b0 b1 b2 b3 hl1 hl2
    cases s with
    | true =>
      have hc : c = 1 := HH.out
      subst hc
      go_wp2_with fail
      refine (HL2.out _).mono ?_
      rintro e w3 ⟨rfl, hg⟩
      have HR := Lib.hid (HB2.out.trans (hg.below.mono HB2.out.size))
      clear hg
      go_wp2
      go_ret
      exact ⟨rfl, HR.out⟩
    | false =>
      have hc : c = 0 := HH.out
      subst hc
      go_wp2_with fail
      refine (HL2.out _).mono ?_
      rintro e w3 ⟨rfl, hg⟩
      have HR := Lib.hid (HB2.out.trans (hg.below.mono HB2.out.size))
      clear hg
      go_wp2
      go_ret
      exact ⟨rfl, HR.out⟩
end Go.Proofs.YtjknnbeemcpppaaDoor.Wk
