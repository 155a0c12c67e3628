/-
  Contracts of the document's own answers on lists of pairs: Get, Rank, Same. Not a statement of the seat.
-/
import Derived.Test.YtpmimngngehmlaaPmRef1
import Derived.Test.YtpmimngngehmlaaQPai
import Derived.Deep.QuietTactic
import Derived.BigQuiet
namespace Go.Proofs.Ytpmimngngehmlaa.F
open Go.ChangeShapes Go.WideShapes Go.ChangeAt Go.RowKit Base
/-- A key's value, and whether it is there. -/
def getL (key : Int) (l : List Pai) : Int × Bool := match l.find? fun p => p.k == key with
  | some p => (p.v, true)
  | none => (0, false)
theorem pai_split {l : List Pai} {k : Nat} (hk : k < l.length) : l = l.take k ++ l.getD k Pai.zero :: l.drop (k + 1) := by
  have h1 : l.getD k Pai.zero = l[k] := by rw [List.getD_eq_getElem?_getD, List.getElem?_eq_getElem hk]; rfl
  rw [h1, ← List.drop_eq_getElem_cons hk, List.take_append_drop]
theorem getL_hit {l : List Pai} {k : Nat} {key : Int} (hk : k < l.length) (h : hasL key (l.take k) = false) (hx : ((l.getD k Pai.zero).k == key) = true) : getL key l = ((l.getD k Pai.zero).v, true) := by
  have h1 : (l.take k).find? (fun p => p.k == key) = none := by
    rw [List.find?_eq_none]
    intro x hx h2
    have : hasL key (l.take k) = true := List.any_eq_true.2 ⟨x, hx, h2⟩
    rw [h] at this
    cases this
  unfold getL
  have h3 : l.find? (fun p => p.k == key) = some (l.getD k Pai.zero) := by
    generalize hg : l.getD k Pai.zero = x at hx ⊢
    have hs := pai_split hk
    rw [hg] at hs
    rw [hs, List.find?_append, h1, List.find?_cons, hx]
    rfl
  rw [h3]
theorem getL_none {l : List Pai} {key : Int} (h : hasL key l = false) : getL key l = (0, false) := by
  have h1 : l.find? (fun p => p.k == key) = none := by
    rw [List.find?_eq_none]
    intro x hx h2
    have : hasL key l = true := List.any_eq_true.2 ⟨x, hx, h2⟩
    rw [h] at this
    cases this
  unfold getL
  rw [h1]
/-- What a call that tells a number and a bool, and may make memory, leaves. -/
def IntBool (i : Int) (is : Bool) (w : World) (e : Ending) (w' : World) : Prop := e = .returned (.tuple #[.int .i64 i, .bool is]) ∧ Below w.heap.size w w'
def IntPost (i : Int) (w : World) (e : Ending) (w' : World) : Prop := e = .returned (.int .i64 i) ∧ Below w.heap.size w w'
def BoolPost (is : Bool) (w : World) (e : Ending) (w' : World) : Prop := e = .returned (.bool is) ∧ Below w.heap.size w w'
set_option maxRecDepth 100000 in
set_option maxHeartbeats 2000000 in
theorem get_ref {base : Nat} (v : Value) (l : List Pai) (key : Int) (w : World) (h : Pais base w v l) (hl : l.length ≤ 100000) : Calls Try.prog 62 #[v, .int .i64 key] w (IntBool (getL key l).1 (getL key l).2 w) := by
  obtain ⟨p, c, rfl, _, hc⟩ := h.open_
  have HC := Lib.hid hc
  have HH : Hid (∀ k, k < l.length → hasL key (l.take (k + 1)) = (hasL key (l.take k) || ((l.getD k Pai.zero).k == key))) := Lib.hid fun k hk => by rw [pai_take hk, hasL_snoc]
  have HG : Hid (∀ k, k < l.length → hasL key (l.take k) = false → ((l.getD k Pai.zero).k == key) = true → getL key l = ((l.getD k Pai.zero).v, true)) := Lib.hid fun k hk => getL_hit hk
  have HN : Hid (hasL key (l.take l.length) = false → getL key l = (0, false)) := Lib.hid (by rw [List.take_length]; exact getL_none)
  have HB0 := Lib.hid (Below.refl w.heap.size w)
  generalize getL key l = r at HG HN ⊢
  clear h hc
  go_enter Try.func62, Try.ntmps62
  go_wp2_with fail
  go_loopw [7, 10] (fun _ s10 wr => ∃ k : Nat, s10 = .int .i64 (k : Int) ∧ k ≤ l.length ∧ Hid (hasL key (l.take k) = false) ∧ Hid (Below w.heap.size w wr)) (fun _ s10 _ => l.length - (intOf s10).toNat)
  case atStart => exact ⟨0, rfl, Nat.zero_le _, Lib.hid rfl, HB0⟩
  case round =>
    obtain ⟨k, rfl, hk, HF, HB⟩ := hrel
    by_cases hlt : k < l.length
    · obtain ⟨g', o', rfl, _, hg, c0, c1⟩ := HC.out k hlt
      have c0 := (HB.out.cell (p := ⟨g', _, none⟩) hg).trans c0
      have c1 := (HB.out.cell (p := ⟨g', _, none⟩) hg).trans c1
      have hh := HH.out k hlt
      have hgt := HG.out k hlt HF.out
      rw [HF.out, Bool.false_or] at hh
      generalize l.getD k Pai.zero = x at c0 c1 hh hgt
      obtain ⟨xk, xv⟩ := x
      simp only at c0 c1 hh hgt
      have HB2 : Hid (∀ X, Below wr.heap.size wr X → Below w.heap.size w X) := Lib.hid fun X hX => HB.out.trans (hX.mono HB.out.size)
      by_cases he : xk = key
      · have he1 : (xk == key) = true := by rw [beq_iff_eq]; exact he
        have hr := hgt he1
        subst hr
        clear hh hgt he hg HG HN HH
        go_wp2_with fail
        go_ret2
        exact ⟨rfl, HB2.out _ (by go_grown)⟩
      · have he1 : (xk == key) = false := by rw [beq_eq_false_iff_ne]; exact he
        rw [he1] at hh
        have HF2 := Lib.hid hh
        clear hh hgt he hg
        go_wp2_with fail
        go_roundw
        case rel => exact ⟨k + 1, by go_num, by omega, HF2, Lib.hid (HB2.out _ (by go_grown))⟩
        case measure => simp [intOf]; omega
    · have e : k = l.length := by omega
      subst e
      have hr := HN.out HF.out
      subst hr
      clear HC HH HG HN
      go_wp2
      go_ret2
      exact ⟨rfl, HB.out⟩
/-- How many keys are less. -/
def rankL (key : Int) (l : List Pai) : Nat := l.countP fun p => decide (p.k < key)
theorem rankL_snoc (key : Int) (l : List Pai) (p : Pai) : rankL key (l ++ [p]) = rankL key l + if p.k < key then 1 else 0 := by
  unfold rankL
  rw [List.countP_append]
  by_cases h : p.k < key <;> simp [h]
theorem rankL_le (key : Int) (l : List Pai) : rankL key l ≤ l.length := List.countP_le_length
set_option maxRecDepth 100000 in
set_option maxHeartbeats 2000000 in
theorem rank_ref {base : Nat} (v : Value) (l : List Pai) (key : Int) (w : World) (h : Pais base w v l) (hl : l.length ≤ 100000) : Calls Try.prog 63 #[v, .int .i64 key] w (IntPost (rankL key l : Nat) w) := by
  obtain ⟨p, c, rfl, _, hc⟩ := h.open_
  have HC := Lib.hid hc
  have HH : Hid (∀ k, k < l.length → rankL key (l.take (k + 1)) = rankL key (l.take k) + if (l.getD k Pai.zero).k < key then 1 else 0) := Lib.hid fun k hk => by rw [pai_take hk, rankL_snoc]
  have HL : Hid (∀ k, rankL key (l.take k) ≤ l.length) := Lib.hid fun k => Nat.le_trans (rankL_le _ _) (by rw [List.length_take]; omega)
  have HN : Hid (rankL key (l.take l.length) = rankL key l) := Lib.hid (by rw [List.take_length])
  have HB0 := Lib.hid (Below.refl w.heap.size w)
  generalize rankL key l = r at HN ⊢
  clear h hc
  go_enter Try.func63, Try.ntmps63
  go_wp2_with fail
  go_loopw [5, 7, 10] (fun s5 _ s10 wr => ∃ k n : Nat, s10 = .int .i64 (k : Int) ∧ k ≤ l.length ∧ s5 = .int .i64 (n : Int) ∧ Hid (n = rankL key (l.take k)) ∧ Hid (Below w.heap.size w wr)) (fun _ _ s10 _ => l.length - (intOf s10).toNat)
  case atStart => exact ⟨0, 0, rfl, Nat.zero_le _, rfl, Lib.hid rfl, HB0⟩
  case round =>
    obtain ⟨k, n, rfl, hk, rfl, HF, HB⟩ := hrel
    have hn : n ≤ l.length := by rw [HF.out]; exact HL.out k
    by_cases hlt : k < l.length
    · obtain ⟨g', o', rfl, _, hg, c0, c1⟩ := HC.out k hlt
      have c0 := (HB.out.cell (p := ⟨g', _, none⟩) hg).trans c0
      have c1 := (HB.out.cell (p := ⟨g', _, none⟩) hg).trans c1
      have hh := HH.out k hlt
      rw [← HF.out] at hh
      generalize l.getD k Pai.zero = x at c0 c1 hh
      obtain ⟨xk, xv⟩ := x
      simp only at c0 c1 hh
      have HB2 : Hid (∀ X, Below wr.heap.size wr X → Below w.heap.size w X) := Lib.hid fun X hX => HB.out.trans (hX.mono HB.out.size)
      by_cases he : xk < key
      · rw [if_pos he] at hh
        have HF2 := Lib.hid hh.symm
        clear hh hg HF
        go_wp2_with fail
        go_roundw
        case rel => exact ⟨k + 1, n + 1, by go_num, by omega, by go_num, HF2, Lib.hid (HB2.out _ (by go_grown))⟩
        case measure => simp [intOf]; omega
      · rw [if_neg he, Nat.add_zero] at hh
        have HF2 := Lib.hid hh.symm
        clear hh hg HF
        go_wp2_with fail
        go_roundw
        case rel => exact ⟨k + 1, n, by go_num, by omega, rfl, HF2, Lib.hid (HB2.out _ (by go_grown))⟩
        case measure => simp [intOf]; omega
    · have e : k = l.length := by omega
      subst e
      have hr : n = r := by rw [HF.out, HN.out]
      subst hr
      clear HC HH HL HN HF
      go_wp2
      go_ret
      exact ⟨rfl, HB.out⟩
/-- Are two lists of pairs one? -/
def sameL (a b : List Pai) : Bool := decide (a.length = b.length) && (List.range a.length).all fun k => Pai.beq (a.getD k Pai.zero) (b.getD k Pai.zero)
theorem sameL_iff (a b : List Pai) : sameL a b = true ↔ a = b := by
  unfold sameL
  rw [Bool.and_eq_true, decide_eq_true_eq, List.all_eq_true]
  constructor
  · rintro ⟨h1, h2⟩
    apply List.ext_getElem h1
    intro k ha hb
    have := (Pai.beq_iff _ _).1 (h2 k (List.mem_range.2 ha))
    simpa [List.getD_eq_getElem?_getD, ha, hb] using this
  · rintro rfl
    exact ⟨rfl, fun k _ => Pai.beq_self _⟩
/-- What a call that tells a bool, and draws, leaves. -/
def BoolDrew (is : Bool) (w : World) (e : Ending) (w' : World) : Prop := e = .returned (.bool is) ∧ ∃ n, w' = w.drewN n
set_option maxRecDepth 100000 in
set_option maxHeartbeats 2000000 in
theorem same_ref {ba bb : Nat} (v u : Value) (a b : List Pai) (w : World) (ha : Pais ba w v a) (hb : Pais bb w u b) (hl : a.length ≤ 100000) : Calls Try.prog 21 #[v, u] w (BoolDrew (sameL a b) w) := by
  obtain ⟨p, c, rfl, _, hca⟩ := ha.open_
  obtain ⟨q, d, rfl, hlb, hcb⟩ := hb.open_
  clear ha hb
  by_cases hne : a.length = b.length
  · have HA := Lib.hid hca
    have HBB := Lib.hid hcb
    have HN : Hid (∀ k, k < a.length → Pai.beq (a.getD k Pai.zero) (b.getD k Pai.zero) = false → sameL a b = false) := Lib.hid fun k hk h => by
      rw [Bool.eq_false_iff]
      intro h2
      rw [(sameL_iff a b).1 h2, Pai.beq_self] at h
      cases h
    have HY : Hid ((∀ k, k < a.length → Pai.beq (a.getD k Pai.zero) (b.getD k Pai.zero) = true) → sameL a b = true) := Lib.hid fun h => by
      unfold sameL
      rw [Bool.and_eq_true, decide_eq_true_eq, List.all_eq_true]
      exact ⟨hne, fun k hk => h k (List.mem_range.1 hk)⟩
    have HE := Lib.hid hne
    rw [← hne] at hcb ⊢
    generalize sameL a b = r at HN HY ⊢
    clear hca hcb hne
    go_enter Try.func21, Try.ntmps21
    go_wp2_with fail
    go_loopw [5, 13] (fun _ s13 wr => ∃ k q : Nat, s13 = .int .i64 (k : Int) ∧ k ≤ a.length ∧ Hid (∀ j, j < k → Pai.beq (a.getD j Pai.zero) (b.getD j Pai.zero) = true) ∧ wr = w.drewN q) (fun _ s13 _ => a.length - (intOf s13).toNat)
    case atStart => exact ⟨0, 0, rfl, Nat.zero_le _, Lib.hid (fun j hj => absurd hj (by omega)), rfl⟩
    case round =>
      obtain ⟨k, nq, rfl, hk, HF, rfl⟩ := hrel
      by_cases hlt : k < a.length
      · obtain ⟨g1, o1, rfl, _, _, c0, c1⟩ := HA.out k hlt
        obtain ⟨g2, o2, rfl, _, _, d0, d1⟩ := HBB.out k (by rw [← HE.out]; exact hlt)
        have hn := HN.out k hlt
        have HF2 : Hid (Pai.beq (a.getD k Pai.zero) (b.getD k Pai.zero) = true → ∀ j, j < k + 1 → Pai.beq (a.getD j Pai.zero) (b.getD j Pai.zero) = true) := Lib.hid fun h j hj => by
          by_cases e : j = k
          · subst e; exact h
          · exact HF.out j (by omega)
        generalize a.getD k Pai.zero = x at c0 c1 hn HF2
        generalize b.getD k Pai.zero = y at d0 d1 hn HF2
        have hq := ne_pai x y
        cases hb : Pai.beq x y
        · have hr := hn hb
          subst hr
          rw [hb] at hq
          clear hn HN HY HF HF2 hb
          go_wp2_with fail
          go_quiet (fail)
          go_wp2
          go_ret
          exact ⟨rfl, _, by rw [World.drewN_drewN]⟩
        · rw [hb] at hq
          have HF3 := Lib.hid (HF2.out hb)
          clear hn hb HF HF2
          go_wp2_with fail
          go_quiet (fail)
          go_wp2
          go_roundw
          case rel => exact ⟨k + 1, _, by go_num, by omega, HF3, rfl⟩
          case measure => simp [intOf]; omega
      · have e : k = a.length := by omega
        subst e
        have hr := HY.out HF.out
        subst hr
        clear HN HY HF HA HBB
        go_wp2
        go_ret
        exact ⟨rfl, _, rfl⟩
  · have hr : sameL a b = false := by
      unfold sameL
      rw [decide_eq_false hne]; rfl
    have hne2 : ((a.length : Int) != (b.length : Int)) = true := by rw [bne_iff_ne]; omega
    rw [hr]
    clear hr hca hcb
    go_enter Try.func21, Try.ntmps21
    go_wp2
    go_ret
    exact ⟨rfl, 0, rfl⟩
end Go.Proofs.Ytpmimngngehmlaa.F
