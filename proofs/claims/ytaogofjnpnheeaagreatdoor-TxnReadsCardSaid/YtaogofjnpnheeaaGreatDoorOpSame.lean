/-
  Contracts: whether two lists of operations are one; the program's, and the document's. Not a statement of the seat.
-/
import Derived.Test.YtaogofjnpnheeaaGreatDoorQOpr
import Derived.BigQuiet
import Derived.Deep.QuietTactic
namespace Go.Proofs.YtaogofjnpnheeaaGreatDoor.Op
open Go.ChangeShapes Go.WideShapes Go.ChangeAt Go.RowKit Base F Go.Lib
/-- Are two lists one? -/
def sameO : List Opr → List Opr → Bool
  | [], [] => true
  | x :: xs, y :: ys => Opr.beq x y && sameO xs ys
  | _, _ => false
theorem sameO_iff : ∀ (xs ys : List Opr), sameO xs ys = true ↔ xs = ys
  | [], [] => by simp [sameO]
  | [], y :: ys => by simp [sameO]
  | x :: xs, [] => by simp [sameO]
  | x :: xs, y :: ys => by
    simp only [sameO, Bool.and_eq_true, Opr.beq_iff, sameO_iff xs ys, List.cons.injEq]
theorem sameO_len {xs ys : List Opr} (h : xs.length ≠ ys.length) : sameO xs ys = false := by
  rw [Bool.eq_false_iff]
  intro e
  exact h (by rw [(sameO_iff xs ys).1 e])
theorem sameO_at {xs ys : List Opr} {k : Nat} (h : Opr.beq (xs.getD k Opr.zero) (ys.getD k Opr.zero) = false) : sameO xs ys = false := by
  rw [Bool.eq_false_iff]
  intro e
  rw [(sameO_iff xs ys).1 e, Opr.beq_self] at h
  cases h
theorem sameO_all {xs ys : List Opr} (hl : xs.length = ys.length) (h : ∀ k, k < xs.length → Opr.beq (xs.getD k Opr.zero) (ys.getD k Opr.zero) = true) : sameO xs ys = true := by
  rw [sameO_iff]
  apply List.ext_getElem hl
  intro k h1 h2
  have := (Opr.beq_iff _ _).1 (h k h1)
  rw [List.getD_eq_getElem?_getD, List.getD_eq_getElem?_getD, List.getElem?_eq_getElem h1, List.getElem?_eq_getElem h2] at this
  exact this
set_option maxHeartbeats 4000000 in
set_option maxRecDepth 100000 in
theorem equal_any (w : World) (v u : Value) (xs ys : List Opr) (b1 b2 : Nat) (hx : Oprs b1 w v xs) (hy : Oprs b2 w u ys) : Calls Tryz.prog 35 #[v, u] w fun e w' => e = .returned (.bool (sameO xs ys)) ∧ ∃ q, w' = w.drewN q := by
  obtain ⟨p1, c1, rfl, hl1, hc1⟩ := hx.open_
  obtain ⟨p2, c2, rfl, hl2, hc2⟩ := hy.open_
  clear hx hy
  by_cases hl : xs.length = ys.length
  case neg =>
    rw [sameO_len hl]
    have hb : ((xs.length : Int) != (ys.length : Int)) = true := by rw [bne_iff_ne]; omega
    clear hc1 hc2
    generalize xs.length = n at *
    generalize ys.length = m at *
    clear hl
    go_enter Tryz.func35, Tryz.ntmps35
    go_wp2
    go_ret
    exact ⟨rfl, 0, rfl⟩
  have HC : Hid (∀ k, k < xs.length → ∃ g1 o1 g2 o2, p1 = some ⟨g1, o1, none⟩ ∧ p2 = some ⟨g2, o2, none⟩ ∧ (w.cell? ⟨g1, o1 + k * 4, none⟩ = some (.bool (xs.getD k Opr.zero).rd) ∧ w.cell? ⟨g1, o1 + k * 4 + 1, none⟩ = some (.int .i64 (xs.getD k Opr.zero).k) ∧ w.cell? ⟨g1, o1 + k * 4 + 2, none⟩ = some (.int .i64 (xs.getD k Opr.zero).t) ∧ w.cell? ⟨g1, o1 + k * 4 + 3, none⟩ = some (.int .i64 (xs.getD k Opr.zero).n)) ∧
      (w.cell? ⟨g2, o2 + k * 4, none⟩ = some (.bool (ys.getD k Opr.zero).rd) ∧ w.cell? ⟨g2, o2 + k * 4 + 1, none⟩ = some (.int .i64 (ys.getD k Opr.zero).k) ∧ w.cell? ⟨g2, o2 + k * 4 + 2, none⟩ = some (.int .i64 (ys.getD k Opr.zero).t) ∧ w.cell? ⟨g2, o2 + k * 4 + 3, none⟩ = some (.int .i64 (ys.getD k Opr.zero).n))) := Lib.hid fun k hk => by
    obtain ⟨g1, o1, e1, _, _, h1⟩ := hc1 k hk
    obtain ⟨g2, o2, e2, _, _, h2⟩ := hc2 k (by omega)
    exact ⟨g1, o1, g2, o2, e1, e2, h1, h2⟩
  have HN : Hid (∀ k, k < xs.length → Opr.beq (xs.getD k Opr.zero) (ys.getD k Opr.zero) = false → sameO xs ys = false) := Lib.hid fun k _ h => sameO_at (k := k) h
  have HY : Hid ((∀ k, k < xs.length → Opr.beq (xs.getD k Opr.zero) (ys.getD k Opr.zero) = true) → sameO xs ys = true) := Lib.hid fun h => sameO_all hl h
  clear hc1 hc2
  have HQ : Hid (∀ (x y : Opr) (w : World), (binOp .neq 30 (.agg #[.bool x.rd, .int .i64 x.k, .int .i64 x.t, .int .i64 x.n]) (.agg #[.bool y.rd, .int .i64 y.k, .int .i64 y.t, .int .i64 y.n])).run Tryz.prog w = .ok (.bool (!Opr.beq x y)) w) := Lib.hid ne_opr
  rw [← hl]
  clear hl hl2
  have hb : ((xs.length : Int) != (xs.length : Int)) = false := by simp
  generalize sameO xs ys = r at HN HY ⊢
  generalize xs.length = n at *
  go_enter Tryz.func35, Tryz.ntmps35
  go_wp2
  go_loopw [13] (fun s13 wr => ∃ k q : Nat, s13 = .int .i64 k ∧ k ≤ n ∧ wr = w.drewN q ∧ Hid (∀ j, j < k → Opr.beq (xs.getD j Opr.zero) (ys.getD j Opr.zero) = true)) (fun s13 _ => n - (intOf s13).toNat)
  case atStart => exact ⟨0, 0, rfl, Nat.zero_le _, rfl, Lib.hid fun j hj => absurd hj (by omega)⟩
  case round =>
    obtain ⟨k, q, rfl, hk, rfl, HD⟩ := hrel
    by_cases hlt : k < n
    · obtain ⟨g1, o1, g2, o2, rfl, rfl, ⟨a0, a1, a2, a3⟩, ⟨d0, d1, d2, d3⟩⟩ := HC.out k hlt
      have HDK : Hid (Opr.beq (xs.getD k Opr.zero) (ys.getD k Opr.zero) = true → ∀ j, j < k + 1 → Opr.beq (xs.getD j Opr.zero) (ys.getD j Opr.zero) = true) := Lib.hid fun h j hj => by
        by_cases e : j = k
        · subst e; exact h
        · exact HD.out j (by omega)
      have HNK := Lib.hid (HN.out k hlt)
      have hq := HQ.out (xs.getD k Opr.zero) (ys.getD k Opr.zero)
      generalize xs.getD k Opr.zero = x at a0 a1 a2 a3 hq HDK HNK
      generalize ys.getD k Opr.zero = y at d0 d1 d2 d3 hq HDK HNK
      cases hbb : Opr.beq x y
      · have hR := HNK.out hbb
        subst hR
        rw [hbb] at hq
        simp only [Bool.not_false] at hq
        clear HDK HNK HD HN HY HC hbb
        go_wp2_with fail
        go_quiet (fail)
        go_wp2
        go_ret
        exact ⟨rfl, _, World.drewN_drewN _ _ _⟩
      · have HD2 := Lib.hid (HDK.out hbb)
        rw [hbb] at hq
        simp only [Bool.not_true] at hq
        clear HDK HNK HD hbb
        go_wp2_with fail
        go_quiet (fail)
        go_wp2
        go_roundw
        case rel => exact ⟨k + 1, _, by go_num, by omega, rfl, HD2⟩
        case measure => simp [intOf]; omega
    · obtain rfl : k = n := by omega
      have hR := HY.out HD.out
      subst hR
      clear HD HN HY HC
      go_wp2
      go_ret
      exact ⟨rfl, _, rfl⟩
theorem same_any (w : World) (v u : Value) (xs ys : List Opr) (b1 b2 : Nat) (hx : Oprs b1 w v xs) (hy : Oprs b2 w u ys) : Calls Tryz.prog 25 #[v, u] w fun e w' => e = .returned (.bool (sameO xs ys)) ∧ ∃ q, w' = w.drewN q := by
  have H := Lib.hid (equal_any w v u xs ys b1 b2 hx hy)
  obtain ⟨p1, c1, rfl, _⟩ := hx.open_
  obtain ⟨p2, c2, rfl, _⟩ := hy.open_
  clear hx hy
  generalize sameO xs ys = r at H ⊢
  go_enter Tryz.func25, Tryz.ntmps25
  go_wp2_with fail
  refine H.out.mono ?_
  rintro e w1 ⟨rfl, q, rfl⟩
  go_wp2
  go_ret
  exact ⟨rfl, q, rfl⟩
end Go.Proofs.YtaogofjnpnheeaaGreatDoor.Op
