/-
  Contracts of small functions, several texts laid into one. Not a statement of the seat.
-/
import Derived.Test.YtbgepeokadmemaaHead1
import Derived.Test.YtbgepeokadmemaaFrame
import Derived.Deep.QuietTactic
import Derived.RegionTactic
import Derived.BigRegion
namespace Go.Proofs.Ytbgepeokadmemaa.F
open Go.ChangeShapes Go.WideShapes Go.ChangeAt Go.RowKit Base
/-- Each cell points to cells ahead of it. -/
def Bk (zs : List Cel) : Prop := ∀ (i : Nat) (c : Cel), zs[i]? = some c → (0 ≤ c.l ∧ c.l ≤ (i : Int)) ∧ (0 ≤ c.r ∧ c.r ≤ (i : Int))
theorem Bk.nil : Bk [] := fun i c h => by simp at h
theorem Bk.snoc {zs : List Cel} {c : Cel} (h : Bk zs) (hc : (0 ≤ c.l ∧ c.l ≤ (zs.length : Int)) ∧ (0 ≤ c.r ∧ c.r ≤ (zs.length : Int))) : Bk (zs ++ [c]) := fun i x hx => by
  rcases Nat.lt_trichotomy i zs.length with hi | hi | hi
  · rw [List.getElem?_append_left hi] at hx; exact h i x hx
  · subst hi
    simp at hx
    subst hx
    exact hc
  · rw [List.getElem?_eq_none (by simp; omega)] at hx; cases hx
theorem Bk.take {zs : List Cel} (h : Bk zs) (n : Nat) : Bk (zs.take n) := fun i x hx => by
  rw [List.getElem?_take] at hx
  split at hx
  · exact h i x hx
  · cases hx
/-- Block b is an arena of that room with the cells zs, which lie in block o. -/
def ArAt (w : World) (b : Nat) (o : Option Nat) (room : Nat) (zs : List Cel) : Prop :=
  room ≤ 65536 ∧ zs.length ≤ room ∧ (∀ x ∈ zs, x.ok) ∧ Bk zs ∧ ∃ v, w.heap[b]? = some (.cells #[.int .i64 (room : Int), v] 53) ∧ OwnCel 0 w v zs ∧ v.ownBlock = o
theorem neAr : 53 ≠ 66 := by decide
theorem ArAt.lt {w : World} {b : Nat} {o : Option Nat} {room : Nat} {zs : List Cel} (h : ArAt w b o room zs) : b < w.heap.size ∧ ∀ g, o = some g → g < w.heap.size ∧ g ≠ b := by
  obtain ⟨_, _, _, _, v, hb, hown, rfl⟩ := h
  refine ⟨heap_lt hb, fun g hg => ⟨(hown.base g hg).2, fun e => ?_⟩⟩
  have := own_ne hown hb neAr
  rw [e] at hg
  exact this hg
theorem ArAt.fr {w w' : World} {F : Nat → Prop} {b : Nat} {o : Option Nat} {room : Nat} {zs : List Cel} (h : ArAt w b o room zs) (hf : Fr F w w') (hb : ¬ F b) (ho : ∀ g, o = some g → ¬ F g) : ArAt w' b o room zs := by
  have hl := h.lt
  obtain ⟨h1, h2, h3, h4, v, hv, hown, rfl⟩ := h
  refine ⟨h1, h2, h3, h4, v, (hf.block hl.1 hb).trans hv, ?_, rfl⟩
  refine ⟨hown.1, ?_⟩
  rcases hown.2 with hn | ⟨g, cap, cur, rfl, hB, hg, rest⟩
  · exact .inl hn
  · exact .inr ⟨g, cap, cur, rfl, hB, (hf.block (heap_lt hg) (ho g rfl)).trans hg, rest⟩
theorem ArAt.below {w w' : World} {b : Nat} {o : Option Nat} {room : Nat} {zs : List Cel} (h : ArAt w b o room zs) (hb : Below w.heap.size w w') : ArAt w' b o room zs :=
  h.fr (Fr.of_below (F := fun _ => False) hb) (fun e => e) (fun _ _ e => e)
theorem ArAt.open_ {w : World} {b : Nat} {o : Option Nat} {room : Nat} {zs : List Cel} (h : ArAt w b o room zs) : ∃ p c, (w.cell? ⟨b, 0, none⟩ = some (.int .i64 (room : Int)) ∧ w.cell? ⟨b, 1, none⟩ = some (.slice p zs.length c)) ∧ (w.frozen? ⟨b, 0, none⟩ = false ∧ w.frozen? ⟨b, 1, none⟩ = false) ∧ OwnCel 0 w (.slice p zs.length c) zs ∧ (Value.slice p zs.length c).ownBlock = o ∧ w.heap[b]? = some (.cells #[.int .i64 (room : Int), .slice p zs.length c] 53) := by
  obtain ⟨_, _, _, _, v, hb, hown, ho⟩ := h
  obtain ⟨p, c, rfl⟩ : ∃ p c, v = .slice p zs.length c := by
    rcases hown.2 with ⟨hv, h0⟩ | ⟨g, cap, cur, hv, _⟩
    · exact ⟨none, 0, by rw [hv, h0]⟩
    · exact ⟨_, _, hv⟩
  exact ⟨p, c, by simp [World.cell?, hb], by simp [World.frozen?, hb], hown, ho, hb⟩
/-- The room of an arena of which so much was asked. -/
def roomOf (n : Int) : Nat := (min (max n 0) 65536).toNat
theorem roomOf_eq (n : Int) : ((roomOf n : Nat) : Int) = min (max n 0) 65536 := by unfold roomOf; omega
theorem roomOf_le (n : Int) : roomOf n ≤ 65536 := by unfold roomOf; omega
theorem arnew_any (n : Int) (w : World) : Calls Try.prog 5 #[.int .i64 n] w fun e w' => e = .returned (.pointer (some ⟨w.heap.size, 0, none⟩)) ∧ ArAt w' w.heap.size none (roomOf n) [] ∧ Below w.heap.size w w' := by
  have key : ∀ r : Int, r = min (max n 0) 65536 → ArAt (w.alloc (.cells #[.int .i64 r, .slice none 0 0] 53)) w.heap.size none (roomOf n) [] := fun r hr => by
    rw [← roomOf_eq] at hr
    subst hr
    exact ⟨roomOf_le n, Nat.zero_le _, fun x hx => (List.not_mem_nil hx).elim, Bk.nil, .slice none 0 0, heap_alloc_at _ _ _ rfl, OwnCel.nil _ _, rfl⟩
  rcases (show n < 0 ∨ 0 ≤ n ∧ n ≤ 65536 ∨ 65536 < n from by omega) with h | ⟨h1, h2⟩ | h
  · have K := Lib.hid (key 0 (by omega))
    clear key
    go_enter Try.func5, Try.ntmps5
    go_wp2
    go_ret
    exact ⟨rfl, K.out, by go_grown⟩
  · have K := Lib.hid (key n (by omega))
    clear key
    go_enter Try.func5, Try.ntmps5
    go_wp2
    go_ret
    exact ⟨rfl, K.out, by go_grown⟩
  · have K := Lib.hid (key 65536 (by omega))
    clear key
    go_enter Try.func5, Try.ntmps5
    go_wp2
    go_ret
    exact ⟨rfl, K.out, by go_grown⟩
theorem arlen_any (b : Nat) (o : Option Nat) (room : Nat) (zs : List Cel) (w : World) (h : ArAt w b o room zs) : Calls Try.prog 20 #[.pointer (some ⟨b, 0, none⟩)] w fun e w' => e = .returned (.int .i64 (zs.length : Int)) ∧ w = w' := by
  obtain ⟨p, c, ⟨h0, h1⟩, _⟩ := h.open_
  clear h
  go_enter Try.func20, Try.ntmps20
  go_wp2
  go_ret
  exact ⟨rfl, rfl⟩
theorem arlen_nil (w : World) : Calls Try.prog 20 #[.pointer none] w fun e w' => e = .returned (.int .i64 0) ∧ w = w' := by
  go_enter Try.func20, Try.ntmps20
  go_wp2
  go_ret
  exact ⟨rfl, rfl⟩
/-- What a call that tells a number, and draws, leaves. -/
def IntDrew (r : Int) (w : World) (e : Ending) (w' : World) : Prop := e = .returned (.int .i64 r) ∧ ∃ n, w' = w.drewN n
theorem arroom_any (b : Nat) (o : Option Nat) (room : Nat) (zs : List Cel) (w : World) (h : ArAt w b o room zs) : Calls Try.prog 21 #[.pointer (some ⟨b, 0, none⟩)] w (IntDrew ((room : Int) - (zs.length : Int)) w) := by
  obtain ⟨p, c, ⟨h0, h1⟩, _⟩ := h.open_
  have hr := h.1
  have hl := h.2.1
  have e1 : IntKind.i64.wrap ((room : Int) - (zs.length : Int)) = (room : Int) - (zs.length : Int) := by rw [IntKind.wrap_i64]; omega
  clear h
  go_enter Try.func21, Try.ntmps21
  go_wp2
  go_quiet (fail)
  go_wp2
  go_ret
  exact ⟨rfl, _, rfl⟩
theorem arroom_nil (w : World) : Calls Try.prog 21 #[.pointer none] w (IntDrew 0 w) := by
  go_enter Try.func21, Try.ntmps21
  go_wp2
  go_ret
  exact ⟨rfl, 0, rfl⟩
/-- What a call that tells a bool leaves. -/
def BoolSame (is : Bool) (w : World) (e : Ending) (w' : World) : Prop := e = .returned (.bool is) ∧ w = w'
/-- An arena, or none, by its pointer. -/
def ArV (w : World) (pv : Value) (o : Option Nat) (room : Nat) (zs : List Cel) : Prop := (pv = .pointer none ∧ o = none ∧ room = 0 ∧ zs = []) ∨ ∃ b, pv = .pointer (some ⟨b, 0, none⟩) ∧ ArAt w b o room zs
theorem ArV.of {w : World} {b : Nat} {o : Option Nat} {room : Nat} {zs : List Cel} (h : ArAt w b o room zs) : ArV w (.pointer (some ⟨b, 0, none⟩)) o room zs := .inr ⟨b, rfl, h⟩
theorem ArV.nil (w : World) : ArV w (.pointer none) none 0 [] := .inl ⟨rfl, rfl, rfl, rfl⟩
theorem ArV.below {w w' : World} {pv : Value} {o : Option Nat} {room : Nat} {zs : List Cel} (h : ArV w pv o room zs) (hb : Below w.heap.size w w') : ArV w' pv o room zs := by
  rcases h with h | ⟨b, e, h⟩
  · exact .inl h
  · exact .inr ⟨b, e, h.below hb⟩
theorem ArV.le {w : World} {pv : Value} {o : Option Nat} {room : Nat} {zs : List Cel} (h : ArV w pv o room zs) : zs.length ≤ room ∧ room ≤ 65536 := by
  rcases h with ⟨_, _, rfl, rfl⟩ | ⟨b, e, h⟩
  · exact ⟨Nat.le_refl _, by decide⟩
  · exact ⟨h.2.1, h.1⟩
theorem ArV.bk {w : World} {pv : Value} {o : Option Nat} {room : Nat} {zs : List Cel} (h : ArV w pv o room zs) : Bk zs := by
  rcases h with ⟨_, _, rfl, rfl⟩ | ⟨b, e, h⟩
  · exact Bk.nil
  · exact h.2.2.2.1
theorem ArV.oks {w : World} {pv : Value} {o : Option Nat} {room : Nat} {zs : List Cel} (h : ArV w pv o room zs) : ∀ x ∈ zs, x.ok := by
  rcases h with ⟨_, _, rfl, rfl⟩ | ⟨b, e, h⟩
  · exact fun x hx => (List.not_mem_nil hx).elim
  · exact h.2.2.1
theorem arlen_v {pv : Value} {o : Option Nat} {room : Nat} {zs : List Cel} {w : World} (h : ArV w pv o room zs) : Calls Try.prog 20 #[pv] w fun e w' => e = .returned (.int .i64 (zs.length : Int)) ∧ w = w' := by
  rcases h with ⟨rfl, _, _, rfl⟩ | ⟨b, rfl, h⟩
  · exact arlen_nil w
  · exact arlen_any b o room zs w h
theorem arroom_v {pv : Value} {o : Option Nat} {room : Nat} {zs : List Cel} {w : World} (h : ArV w pv o room zs) : Calls Try.prog 21 #[pv] w (IntDrew ((room : Int) - (zs.length : Int)) w) := by
  rcases h with ⟨rfl, _, rfl, rfl⟩ | ⟨b, rfl, h⟩
  · exact arroom_nil w
  · exact arroom_any b o room zs w h
theorem ariscell {pv : Value} {o : Option Nat} {room : Nat} {zs : List Cel} {w : World} (i : Int) (h : ArV w pv o room zs) : Calls Try.prog 52 #[pv, .int .i64 i] w (BoolSame (decide (1 ≤ i ∧ i ≤ (zs.length : Int))) w) := by
  have HL := Lib.hid (arlen_v h)
  clear h
  by_cases h1 : 1 ≤ i
  · have e : decide (1 ≤ i ∧ i ≤ (zs.length : Int)) = decide (i ≤ (zs.length : Int)) := by simp [h1]
    rw [e]
    clear e
    go_enter Try.func52, Try.ntmps52
    go_wp2_with fail
    refine (HL.out).mono ?_
    rintro e w1 ⟨rfl, rfl⟩
    go_wp2
    go_ret
    exact ⟨rfl, rfl⟩
  · have e : decide (1 ≤ i ∧ i ≤ (zs.length : Int)) = false := by simp [h1]
    rw [e]
    have h2 : i < 1 := by omega
    clear e h1
    go_enter Try.func52, Try.ntmps52
    go_wp2
    go_ret
    exact ⟨rfl, rfl⟩
theorem armay {pv : Value} {o : Option Nat} {room : Nat} {zs : List Cel} {w : World} (i : Int) (h : ArV w pv o room zs) : Calls Try.prog 51 #[pv, .int .i64 i] w (BoolSame (decide (0 ≤ i ∧ i ≤ (zs.length : Int))) w) := by
  have HL := Lib.hid (ariscell i h)
  clear h
  by_cases h1 : i = 0
  · subst h1
    have e : decide (0 ≤ (0 : Int) ∧ 0 ≤ (zs.length : Int)) = true := by simp
    rw [e]
    clear e
    go_enter Try.func51, Try.ntmps51
    go_wp2
    go_ret
    exact ⟨rfl, rfl⟩
  · have e : decide (0 ≤ i ∧ i ≤ (zs.length : Int)) = decide (1 ≤ i ∧ i ≤ (zs.length : Int)) := by
      rw [decide_eq_decide]; omega
    rw [e]
    have h2 : (i == 0) = false := by rw [beq_eq_false_iff_ne]; exact h1
    clear e h1
    generalize decide (1 ≤ i ∧ i ≤ (zs.length : Int)) = q at HL ⊢
    go_enter Try.func51, Try.ntmps51
    go_wp2_with fail
    refine (HL.out).mono ?_
    rintro e w1 ⟨rfl, rfl⟩
    go_wp2
    go_ret
    exact ⟨rfl, rfl⟩
end Go.Proofs.Ytbgepeokadmemaa.F
namespace Go.Proofs.Ytbgepeokadmemaa.F
open Go.ChangeShapes Go.WideShapes Go.ChangeAt Go.RowKit Base
/-- A cell by value. -/
def Cel.agg (x : Cel) : Value := .agg #[.int .i64 x.l, .int .i64 x.r, .int .i64 x.k, .int .i64 x.v, .int .i64 x.s, .int .i64 x.h]
/-- What Get tells. -/
def GetPost (x : Cel) (is : Bool) (w : World) (e : Ending) (w' : World) : Prop := e = .returned (.tuple #[x.agg, .bool is]) ∧ Below w.heap.size w w'
theorem ArAt.cells {w : World} {b : Nat} {o : Option Nat} {room : Nat} {zs : List Cel} (h : ArAt w b o room zs) : ∃ p c, (w.cell? ⟨b, 0, none⟩ = some (.int .i64 (room : Int)) ∧ w.cell? ⟨b, 1, none⟩ = some (.slice p zs.length c)) ∧ Cels 0 w (.slice p zs.length c) zs := by
  obtain ⟨p, c, h1, _, h3, _⟩ := h.open_
  have := h.2.1
  have := h.1
  exact ⟨p, c, h1, h3.list (by omega)⟩
set_option maxHeartbeats 1000000 in
theorem arget_yes (b : Nat) (o : Option Nat) (room : Nat) (zs : List Cel) (i : Nat) (w : World) (h : ArAt w b o room zs) (hi : i < zs.length) : Calls Try.prog 48 #[.pointer (some ⟨b, 0, none⟩), .int .i64 ((i : Int) + 1)] w (GetPost (zs.getD i Cel.zero) true w) := by
  have HA := Lib.hid h
  have hr := h.1
  have hl := h.2.1
  obtain ⟨p, c, ⟨h0, h1⟩, hc⟩ := h.cells
  obtain ⟨g, o', rfl, _, hg, hcells⟩ : ∃ g o', p = some ⟨g, o', none⟩ ∧ True ∧ g < w.heap.size ∧ w.cell? ⟨g, o' + i * 6, none⟩ = some (.int .i64 (zs.getD i Cel.zero).l) ∧ w.cell? ⟨g, o' + i * 6 + 1, none⟩ = some (.int .i64 (zs.getD i Cel.zero).r) ∧ w.cell? ⟨g, o' + i * 6 + 2, none⟩ = some (.int .i64 (zs.getD i Cel.zero).k) ∧ w.cell? ⟨g, o' + i * 6 + 3, none⟩ = some (.int .i64 (zs.getD i Cel.zero).v) ∧ w.cell? ⟨g, o' + i * 6 + 4, none⟩ = some (.int .i64 (zs.getD i Cel.zero).s) ∧ w.cell? ⟨g, o' + i * 6 + 5, none⟩ = some (.int .i64 (zs.getD i Cel.zero).h) := by
    obtain ⟨p', c', hv, _, hk⟩ := hc.open_
    injection hv with e1 e2 e3
    subst e1
    obtain ⟨g, o', hp, _, hg, hh⟩ := hk i hi
    exact ⟨g, o', hp, trivial, hg, hh⟩
  obtain ⟨c0, c1, c2, c3, c4, c5⟩ := hcells
  generalize zs.getD i Cel.zero = x at c0 c1 c2 c3 c4 c5 ⊢
  have HL : Hid (∀ w1, Below w.heap.size w w1 → Calls Try.prog 52 #[.pointer (some ⟨b, 0, none⟩), .int .i64 ((i : Int) + 1)] w1 (BoolSame true w1)) := Lib.hid fun w1 hb => by
    have h1 := ariscell ((i : Int) + 1) (ArV.of (HA.out.below hb))
    rwa [show decide (1 ≤ (i : Int) + 1 ∧ (i : Int) + 1 ≤ (zs.length : Int)) = true by rw [decide_eq_true_eq]; omega] at h1
  have HB := Lib.hid ((Below.refl w.heap.size w).alloc (Nat.le_refl _) (.cells #[.int .i64 0, .int .i64 0, .int .i64 0, .int .i64 0, .int .i64 0, .int .i64 0] 66))
  have hbl := HA.out.lt.1
  have e1 : IntKind.i64.wrap ((i : Int) + 1 - 1) = (i : Int) := by rw [IntKind.wrap_i64]; omega
  clear h hc HA
  go_enter Try.func48, Try.ntmps48
  go_wp2_with fail
  refine (HL.out _ HB.out).mono ?_
  rintro e w1 ⟨rfl, rfl⟩
  go_wp2
  exact bodyPost_ret (v := .tuple #[x.agg, .bool true]) (by simp [results, Try.results48, go_sem, Cel.agg]) rfl ⟨rfl, by go_grown⟩
theorem Cel.zero_agg : Cel.zero.agg = .agg #[.int .i64 0, .int .i64 0, .int .i64 0, .int .i64 0, .int .i64 0, .int .i64 0] := rfl
theorem arget_no {pv : Value} {o : Option Nat} {room : Nat} {zs : List Cel} (i : Int) (w : World) (h : ArV w pv o room zs) (hi : i < 1 ∨ (zs.length : Int) < i) : Calls Try.prog 48 #[pv, .int .i64 i] w (GetPost Cel.zero false w) := by
  have HL : Hid (∀ w1, Below w.heap.size w w1 → Calls Try.prog 52 #[pv, .int .i64 i] w1 (BoolSame false w1)) := Lib.hid fun w1 hb => by
    have h1 := ariscell i (h.below hb)
    rwa [show decide (1 ≤ i ∧ i ≤ (zs.length : Int)) = false by rw [decide_eq_false_iff_not]; omega] at h1
  have HB := Lib.hid ((Below.refl w.heap.size w).alloc (Nat.le_refl _) (.cells #[.int .i64 0, .int .i64 0, .int .i64 0, .int .i64 0, .int .i64 0, .int .i64 0] 66))
  clear h hi
  go_enter Try.func48, Try.ntmps48
  go_wp2_with fail
  refine (HL.out _ HB.out).mono ?_
  rintro e w1 ⟨rfl, rfl⟩
  go_wp2
  exact bodyPost_ret (v := .tuple #[Cel.zero.agg, .bool false]) (by simp [results, Try.results48, go_sem, Cel.zero_agg]) rfl ⟨rfl, by go_grown⟩
/-- The cell of a number. -/
def celAt (zs : List Cel) (i : Int) : Cel := if 1 ≤ i then zs.getD (i.toNat - 1) Cel.zero else Cel.zero
theorem arget_v {pv : Value} {o : Option Nat} {room : Nat} {zs : List Cel} (i : Int) (w : World) (h : ArV w pv o room zs) : Calls Try.prog 48 #[pv, .int .i64 i] w (GetPost (celAt zs i) (decide (1 ≤ i ∧ i ≤ (zs.length : Int))) w) := by
  by_cases hi : 1 ≤ i ∧ i ≤ (zs.length : Int)
  · rw [show decide (1 ≤ i ∧ i ≤ (zs.length : Int)) = true by rw [decide_eq_true_eq]; exact hi]
    rcases h with ⟨rfl, _, _, rfl⟩ | ⟨b, rfl, h⟩
    · simp at hi; omega
    · have := arget_yes b o room zs (i.toNat - 1) w h (by omega)
      rw [show (((i.toNat - 1 : Nat)) : Int) + 1 = i by omega] at this
      unfold celAt
      rw [if_pos hi.1]
      exact this
  · rw [show decide (1 ≤ i ∧ i ≤ (zs.length : Int)) = false by rw [decide_eq_false_iff_not]; exact hi]
    have e : celAt zs i = Cel.zero := by
      unfold celAt
      split
      · rw [List.getD_eq_getElem?_getD, List.getElem?_eq_none (by omega)]; rfl
      · rfl
    rw [e]
    exact arget_no i w h (by omega)
/-- The blocks of an arena. -/
def ArF (b : Nat) (o : Option Nat) (g : Nat) : Prop := g = b ∨ o = some g
/-- What becomes of an arena: its cells lie where they lay, or in a new block; other blocks are as they were. -/
def ArPost (b : Nat) (o : Option Nat) (room : Nat) (zs : List Cel) (v : Value) (w : World) (e : Ending) (w' : World) : Prop :=
  e = .returned v ∧ ∃ o', ArAt w' b o' room zs ∧ (o' = o ∨ ∃ g, o' = some g ∧ w.heap.size ≤ g) ∧ Fr (ArF b o) w w'
theorem ArAt.store {w : World} {b : Nat} {o : Option Nat} {room : Nat} {zs' : List Cel} {v' : Value} (h : ∃ v, w.heap[b]? = some (.cells #[.int .i64 (room : Int), v] 53)) (hown : OwnCel 0 w v' zs') (ho : v'.ownBlock = o) (h1 : room ≤ 65536) (h2 : zs'.length ≤ room) (h3 : ∀ x ∈ zs', x.ok) (h4 : Bk zs') :
    ArAt (w.setCell ⟨b, 1, none⟩ v') b o room zs' := by
  obtain ⟨v, hb⟩ := h
  have hne := own_ne hown hb neAr
  refine ⟨h1, h2, h3, h4, v', by simp [World.setCell, Array.getElem?_modify, hb], ?_, ho⟩
  exact hown.kept (row := some b) ⟨rfl, rfl, rfl, by simp [World.setCell], fun k _ hk => Below.heap_setCell _ _ _ _ (fun e => hk (by simp [e]))⟩ (.inr hne)
theorem Fr.setCell {F : Nat → Prop} {w w' : World} (h : Fr F w w') {b : Nat} (hb : F b) (j : Nat) (v : Value) : Fr F w (w'.setCell ⟨b, j, none⟩ v) :=
  ⟨h.1, h.2.1, h.2.2.1, by simpa [World.setCell] using h.size, fun g hg hn => (Below.heap_setCell _ _ _ _ (fun e => hn (by rw [e]; exact hb))).trans (h.block hg hn)⟩
set_option maxHeartbeats 1000000 in
theorem arcut_yes (b : Nat) (o : Option Nat) (room : Nat) (zs : List Cel) (n : Nat) (w : World) (h : ArAt w b o room zs) (hn : n ≤ zs.length) : Calls Try.prog 44 #[.pointer (some ⟨b, 0, none⟩), .int .i64 (n : Int)] w (ArPost b o room (zs.take n) (.bool true) w) := by
  obtain ⟨p, c, ⟨h0, h1⟩, ⟨f0, f1⟩, hown, ho, hb⟩ := h.open_
  have hlc : zs.length ≤ c := by
    rcases hown.2 with ⟨hv, hz⟩ | ⟨g, cap, cur, hv, _, _, hh, _⟩
    · omega
    · injection hv with e1 e2 e3
      omega
  have hcut := hown.cut hn
  have hs : ∀ wx, (Instr.sliceAt 51 (.slice p zs.length c) none (some (.int .i64 (n : Int))) none).run Try.prog wx = .ok (.slice p n c) wx := fun wx => by
    rw [run_sliceAt_slice _ _ _ _ _ _ (by kernel_rfl), run_slice_h wx _ _ _ _ (by kernel_rfl) _ _ (by omega) (by omega), show Try.prog.elem 51 = 66 by kernel_rfl, show (sizeOf 66).run Try.prog wx = .ok 6 wx by kernel_rfl]
    simp only [Result.andThen, sliced]
    congr 1
    cases p with
    | none => simp
    | some a => simp [Addr.add]
  have HP : Hid (ArPost b o room (zs.take n) (.bool true) w (.returned (.bool true)) (w.setCell ⟨b, 1, none⟩ (.slice p n c))) := Lib.hid
    ⟨rfl, o, ArAt.store ⟨_, hb⟩ hcut (by rw [← ho]; cases p <;> rfl) h.1 (by rw [List.length_take]; have := h.2.1; omega) (fun x hx => h.2.2.1 x (List.mem_of_mem_take hx)) (h.2.2.2.1.take n), .inl rfl, (Fr.refl _ _).setCell (.inl rfl) 1 _⟩
  have hll := h.2.1
  have hrr := h.1
  clear h hown ho hb hcut
  generalize ArPost b o room (zs.take n) (.bool true) w = Post at HP ⊢
  go_enter Try.func44, Try.ntmps44
  go_wp2
  exact HP.out
theorem arcut_no (b : Nat) (o : Option Nat) (room : Nat) (zs : List Cel) (n : Int) (w : World) (h : ArAt w b o room zs) (hn : n < 0 ∨ (zs.length : Int) < n) : Calls Try.prog 44 #[.pointer (some ⟨b, 0, none⟩), .int .i64 n] w fun e w' => e = .returned (.bool false) ∧ w = w' := by
  obtain ⟨p, c, ⟨h0, h1⟩, _⟩ := h.open_
  clear h
  by_cases h1 : n < 0
  · clear hn
    go_enter Try.func44, Try.ntmps44
    go_wp2
    go_ret
    exact ⟨rfl, rfl⟩
  · have h2 : (zs.length : Int) < n := by omega
    have h3 : 0 ≤ n := by omega
    clear hn h1
    go_enter Try.func44, Try.ntmps44
    go_wp2
    go_ret
    exact ⟨rfl, rfl⟩
theorem arcut_nil (n : Int) (w : World) : Calls Try.prog 44 #[.pointer none, .int .i64 n] w (BoolSame (n == 0) w) := by
  go_enter Try.func44, Try.ntmps44
  go_wp2
  go_ret
  exact ⟨rfl, rfl⟩
end Go.Proofs.Ytbgepeokadmemaa.F
namespace Go.Proofs.Ytbgepeokadmemaa.F
open Go.ChangeShapes Go.WideShapes Go.ChangeAt Go.RowKit Base
/-- Is a cell right for an arena that has n cells? -/
def fitC (c : Cel) (n : Nat) : Prop := (0 ≤ c.l ∧ c.l ≤ (n : Int)) ∧ (0 ≤ c.r ∧ c.r ≤ (n : Int))
theorem Cel.box (c : Cel) (w : World) : Below w.heap.size w (w.alloc (.cells #[.int .i64 c.l, .int .i64 c.r, .int .i64 c.k, .int .i64 c.v, .int .i64 c.s, .int .i64 c.h] 66)) := (Below.refl _ _).alloc (Nat.le_refl _) _
/-- What a call that tells a number, and why there is none, and may make memory, leaves. -/
def NumPost (i y : Int) (w : World) (e : Ending) (w' : World) : Prop := e = .returned (.tuple #[.int .i64 i, .int .i64 y]) ∧ Below w.heap.size w w'
set_option maxHeartbeats 2000000 in
theorem arput_bad {pv : Value} {o : Option Nat} {room : Nat} {zs : List Cel} (c : Cel) (w : World) (h : ArV w pv o room zs) (hc : ¬ fitC c zs.length) : Calls Try.prog 46 #[pv, .agg #[.int .i64 c.l, .int .i64 c.r, .int .i64 c.k, .int .i64 c.v, .int .i64 c.s, .int .i64 c.h]] w (NumPost 0 1 w) := by
  have HB := Lib.hid (c.box w)
  have h' := h.below HB.out
  clear h
  by_cases h1 : 0 ≤ c.l ∧ c.l ≤ (zs.length : Int)
  · have HL := Lib.hid (armay c.l h')
    rw [show decide (0 ≤ c.l ∧ c.l ≤ (zs.length : Int)) = true by rw [decide_eq_true_eq]; exact h1] at HL
    have HM := Lib.hid (armay c.r h')
    rw [show decide (0 ≤ c.r ∧ c.r ≤ (zs.length : Int)) = false by rw [decide_eq_false_iff_not]; exact fun e => hc ⟨h1, e⟩] at HM
    clear hc h' h1
    go_enter Try.func46, Try.ntmps46
    go_wp2_with fail
    refine (HL.out).mono ?_
    rintro e w1 ⟨rfl, rfl⟩
    go_wp2_with fail
    refine (HM.out).mono ?_
    rintro e w1 ⟨rfl, rfl⟩
    go_wp2
    go_ret2
    exact ⟨rfl, HB.out⟩
  · have HL := Lib.hid (armay c.l h')
    rw [show decide (0 ≤ c.l ∧ c.l ≤ (zs.length : Int)) = false by rw [decide_eq_false_iff_not]; exact h1] at HL
    clear hc h' h1
    go_enter Try.func46, Try.ntmps46
    go_wp2_with fail
    refine (HL.out).mono ?_
    rintro e w1 ⟨rfl, rfl⟩
    go_wp2
    go_ret2
    exact ⟨rfl, HB.out⟩
theorem arput_may {pv : Value} {o : Option Nat} {room : Nat} {zs : List Cel} {c : Cel} {w : World} (h : ArV w pv o room zs) (hc : fitC c zs.length) : Calls Try.prog 51 #[pv, .int .i64 c.l] w (BoolSame true w) ∧ Calls Try.prog 51 #[pv, .int .i64 c.r] w (BoolSame true w) := by
  have h1 := armay c.l h
  have h2 := armay c.r h
  rw [show decide (0 ≤ c.l ∧ c.l ≤ (zs.length : Int)) = true by rw [decide_eq_true_eq]; exact hc.1] at h1
  rw [show decide (0 ≤ c.r ∧ c.r ≤ (zs.length : Int)) = true by rw [decide_eq_true_eq]; exact hc.2] at h2
  exact ⟨h1, h2⟩
set_option maxHeartbeats 2000000 in
theorem arput_full {pv : Value} {o : Option Nat} {room : Nat} {zs : List Cel} (c : Cel) (w : World) (h : ArV w pv o room zs) (hc : fitC c zs.length) (hf : zs.length = room) : Calls Try.prog 46 #[pv, .agg #[.int .i64 c.l, .int .i64 c.r, .int .i64 c.k, .int .i64 c.v, .int .i64 c.s, .int .i64 c.h]] w (NumPost 0 2 w) := by
  have HB := Lib.hid (c.box w)
  have h' := h.below HB.out
  have HL := Lib.hid (arput_may h' hc).1
  have HM := Lib.hid (arput_may h' hc).2
  have HR := Lib.hid (arroom_v h')
  have e0 : (room : Int) - (zs.length : Int) = 0 := by omega
  rw [e0] at HR
  clear h hf e0 hc h'
  go_enter Try.func46, Try.ntmps46
  go_wp2_with fail
  refine (HL.out).mono ?_
  rintro e w1 ⟨rfl, rfl⟩
  go_wp2_with fail
  refine (HM.out).mono ?_
  rintro e w1 ⟨rfl, rfl⟩
  go_wp2_with fail
  refine (HR.out).mono ?_
  rintro e w1 ⟨rfl, n, rfl⟩
  go_wp2
  go_ret2
  exact ⟨rfl, below_drewN HB.out n⟩
theorem put_step {w w1 X w' : World} {b room : Nat} {o : Option Nat} {zs : List Cel} {c : Cel} {p : Option Addr} {cp : Nat} {v' V : Value} {oo : Obj} (hA : ArAt w1 b o room zs) (hb : w1.heap[b]? = some (.cells #[.int .i64 (room : Int), .slice p zs.length cp] 53)) (hbo : (Value.slice p zs.length cp).ownBlock = o) (hw : Below w.heap.size w w1)
    (hX : X.os = w1.os ∧ X.tape = w1.tape ∧ X.output = w1.output ∧ X.heap = w1.heap) (hf : zs.length < room) (hc : c.ok) (hfit : fitC c zs.length) (ho : OwnCel 0 w' v' (zs ++ [c])) (hg : (X.alloc oo).grownBy w' (Value.slice p zs.length cp).ownBlock) (hat : v'.ownBlock = (Value.slice p zs.length cp).ownBlock ∨ v'.ownBlock = some (X.alloc oo).heap.size) :
    ∃ g cap, v' = .slice (some ⟨g, 0, none⟩) (zs.length + 1) cap ∧ w'.cell? ⟨b, 1, none⟩ = some (.slice p zs.length cp) ∧ w'.frozen? ⟨b, 1, none⟩ = false ∧ Hid (ArPost b o room (zs ++ [c]) V w (.returned V) (w'.setCell ⟨b, 1, none⟩ v')) := by
  obtain ⟨g, cap, hv⟩ : ∃ g cap, v' = .slice (some ⟨g, 0, none⟩) (zs.length + 1) cap := by
    rcases ho.2 with ⟨_, h0⟩ | ⟨g, cap, cur, hv, _⟩
    · simp at h0
    · exact ⟨g, cap, by simpa using hv⟩
  have hlt := hA.lt
  have hne : (Value.slice p zs.length cp).ownBlock ≠ some b := fun e => (hlt.2 b (hbo.symm.trans e)).2 rfl
  have hsz : (X.alloc oo).heap.size = w1.heap.size + 1 := by simp [hX.2.2.2]
  have hb1 : (X.alloc oo).heap[b]? = some (.cells #[.int .i64 (room : Int), .slice p zs.length cp] 53) := heap_alloc_lt _ _ _ _ (by rw [hX.2.2.2]; exact hb)
  have hb2 : w'.heap[b]? = some (.cells #[.int .i64 (room : Int), .slice p zs.length cp] 53) := (hg.block b (heap_lt hb1) (fun e => hne e.symm)).trans hb1
  have hFr : Fr (ArF b o) w w' := by
    have f1 : Fr (ArF b o) w w1 := Fr.of_below hw
    have f2 : Fr (ArF b o) w X := ⟨hX.1.trans f1.1, hX.2.1.trans f1.2.1, hX.2.2.1.trans f1.2.2.1, by rw [hX.2.2.2]; exact f1.size, fun g hg hn => by rw [hX.2.2.2]; exact f1.block hg hn⟩
    exact (f2.alloc oo).trans (Fr.of_grown (F := fun g => o = some g) hg (fun k hk => hbo.symm.trans hk)) (fun g _ e => .inr e)
  refine ⟨g, cap, hv, by simp [World.cell?, hb2], by simp [World.frozen?, hb2], Lib.hid ⟨rfl, v'.ownBlock, ?_, ?_, hFr.setCell (.inl rfl) 1 _⟩⟩
  · refine ArAt.store ⟨_, hb2⟩ ho rfl hA.1 (by rw [List.length_append, List.length_singleton]; omega) (fun x hx => ?_) (hA.2.2.2.1.snoc hfit)
    rcases List.mem_append.1 hx with h | h
    · exact hA.2.2.1 x h
    · rw [List.mem_singleton.1 h]; exact hc
  · rcases hat with h | h
    · exact .inl (h.trans hbo)
    · exact .inr ⟨_, h, by have := hw.size; omega⟩
set_option maxHeartbeats 2000000 in
theorem arput_ok (b : Nat) (o : Option Nat) (room : Nat) (zs : List Cel) (c : Cel) (w : World) (h : ArAt w b o room zs) (hc : fitC c zs.length) (hf : zs.length < room) (hok : c.ok) : Calls Try.prog 46 #[.pointer (some ⟨b, 0, none⟩), .agg #[.int .i64 c.l, .int .i64 c.r, .int .i64 c.k, .int .i64 c.v, .int .i64 c.s, .int .i64 c.h]] w (ArPost b o room (zs ++ [c]) (.tuple #[.int .i64 ((zs.length : Int) + 1), .int .i64 0]) w) := by
  have HB := Lib.hid (c.box w)
  have HA := Lib.hid (h.below HB.out)
  have HL := Lib.hid (arput_may (ArV.of HA.out) hc).1
  have HM := Lib.hid (arput_may (ArV.of HA.out) hc).2
  have hfit := hc
  have HR := Lib.hid (arroom_any b o room zs _ HA.out)
  have hne : ((room : Int) - (zs.length : Int) == 0) = false := by rw [beq_eq_false_iff_ne]; omega
  have hll := h.2.1
  have hrr := h.1
  have hbw := h.lt.1
  clear h
  unfold fitC at hc
  obtain ⟨⟨h1, h2⟩, h3, h4⟩ := hc
  obtain ⟨p, cp, ⟨q0, q1⟩, ⟨f0, f1⟩, hown, hoo, hb⟩ := HA.out.open_
  have HO := Lib.hid hown
  have qq : w.cell? ⟨b, 1, none⟩ = some (.slice p zs.length cp) := by
    rw [← q1]
    simp only [World.cell?]
    rw [Below.heap_alloc _ _ _ hbw]
  have HS : Hid (∀ (X w' : World) (v' : Value) (oo : Obj),
      OwnCel 0 w' v' (zs ++ [c]) → (X.alloc oo).grownBy w' (Value.slice p zs.length cp).ownBlock → (v'.ownBlock = (Value.slice p zs.length cp).ownBlock ∨ v'.ownBlock = some (X.alloc oo).heap.size) → X.os = (w.alloc (.cells #[.int .i64 c.l, .int .i64 c.r, .int .i64 c.k, .int .i64 c.v, .int .i64 c.s, .int .i64 c.h] 66)).os ∧ X.tape = (w.alloc (.cells #[.int .i64 c.l, .int .i64 c.r, .int .i64 c.k, .int .i64 c.v, .int .i64 c.s, .int .i64 c.h] 66)).tape ∧ X.output = (w.alloc (.cells #[.int .i64 c.l, .int .i64 c.r, .int .i64 c.k, .int .i64 c.v, .int .i64 c.s, .int .i64 c.h] 66)).output ∧ X.heap = (w.alloc (.cells #[.int .i64 c.l, .int .i64 c.r, .int .i64 c.k, .int .i64 c.v, .int .i64 c.s, .int .i64 c.h] 66)).heap →
      ∃ g cap, v' = .slice (some ⟨g, 0, none⟩) (zs.length + 1) cap ∧ w'.cell? ⟨b, 1, none⟩ = some (.slice p zs.length cp) ∧ w'.frozen? ⟨b, 1, none⟩ = false ∧ Hid (ArPost b o room (zs ++ [c]) (.tuple #[.int .i64 ((zs.length : Int) + 1), .int .i64 0]) w (.returned (.tuple #[.int .i64 ((zs.length : Int) + 1), .int .i64 0])) (w'.setCell ⟨b, 1, none⟩ v'))) :=
    Lib.hid fun X w' v' oo h1 h2 h3 hX => put_step HA.out hb hoo HB.out hX hf hok hfit h1 h2 h3
  clear hown hoo hb hf hok hfit
  generalize ArPost b o room (zs ++ [c]) (.tuple #[.int .i64 ((zs.length : Int) + 1), .int .i64 0]) w = Post at HS ⊢
  go_enter Try.func46, Try.ntmps46
  go_wp2_with fail
  refine (HL.out).mono ?_
  rintro e w1 ⟨rfl, rfl⟩
  go_wp2_with fail
  refine (HM.out).mono ?_
  rintro e w1 ⟨rfl, rfl⟩
  go_wp2_with fail
  refine (HR.out).mono ?_
  rintro e w1 ⟨rfl, n, rfl⟩
  go_wp2_with fail
  go_region_law (refine step_append_cels rfl (.tmp 27) (.tmp 29) rfl (Nat.zero_le _) (OwnCel.lay HO.out rfl _) (by simp [Act.eval]) (cel_lit c _) (by simp [Act.eval]) (by simp; omega) ?_; intro v' w' ho hg hat; obtain ⟨g, cap, rfl, c1, c2, HE⟩ := HS.out _ _ _ _ ho hg hat ⟨rfl, rfl, rfl, rfl⟩; clear ho hg hat)
  all_goals go_wp2
  all_goals exact HE.out
end Go.Proofs.Ytbgepeokadmemaa.F
namespace Go.Proofs.Ytbgepeokadmemaa.F
open Go.ChangeShapes Go.WideShapes Go.ChangeAt Go.RowKit Base
/-- The blocks of an arena. -/
def VF (pv : Value) (o : Option Nat) (g : Nat) : Prop := pv = .pointer (some ⟨g, 0, none⟩) ∨ o = some g
/-- Cells lie where they lay, or in a new block. -/
def Mv (o o' : Option Nat) (w : World) : Prop := o' = o ∨ ∃ g, o' = some g ∧ w.heap.size ≤ g
theorem Mv.refl (o : Option Nat) (w : World) : Mv o o w := .inl rfl
theorem Mv.trans {o o' o'' : Option Nat} {w w' : World} (h : Mv o o' w) (k : Mv o' o'' w') (hs : w.heap.size ≤ w'.heap.size) : Mv o o'' w := by
  rcases k with rfl | ⟨g, e, hg⟩
  · exact h
  · exact .inr ⟨g, e, Nat.le_trans hs hg⟩
theorem Mv.lower {o o' : Option Nat} {w w' : World} (h : Mv o o' w') (hs : w.heap.size ≤ w'.heap.size) : Mv o o' w := by
  rcases h with rfl | ⟨g, e, hg⟩
  · exact .inl rfl
  · exact .inr ⟨g, e, Nat.le_trans hs hg⟩
theorem Mv.vf {pv : Value} {o o' : Option Nat} {w : World} (h : Mv o o' w) (g : Nat) (hg : g < w.heap.size) (k : VF pv o' g) : VF pv o g := by
  rcases k with k | k
  · exact .inl k
  · rcases h with rfl | ⟨g', e, hg'⟩
    · exact .inr k
    · rw [e] at k; injection k with k; omega
theorem ArV.lt {w : World} {pv : Value} {o : Option Nat} {room : Nat} {zs : List Cel} (h : ArV w pv o room zs) (g : Nat) (k : VF pv o g) : g < w.heap.size := by
  rcases h with ⟨rfl, rfl, _, _⟩ | ⟨b, rfl, h⟩
  · rcases k with k | k <;> cases k
  · rcases k with k | k
    · injection k with k; injection k with k; injection k with k; exact k ▸ h.lt.1
    · exact (h.lt.2 g k).1
theorem ArV.fr {w w' : World} {F : Nat → Prop} {pv : Value} {o : Option Nat} {room : Nat} {zs : List Cel} (h : ArV w pv o room zs) (hf : Fr F w w') (hF : ∀ g, VF pv o g → ¬ F g) : ArV w' pv o room zs := by
  rcases h with h | ⟨b, rfl, h⟩
  · exact .inl h
  · exact .inr ⟨b, rfl, h.fr hf (hF b (.inl rfl)) (fun g e => hF g (.inr e))⟩
/-- What becomes of an arena: its cells lie where they lay, or in a new block; other blocks are as they were. -/
def ArStep (pv : Value) (o : Option Nat) (room : Nat) (zs : List Cel) (v : Value) (w : World) (e : Ending) (w' : World) : Prop :=
  e = .returned v ∧ ∃ o', ArV w' pv o' room zs ∧ Mv o o' w ∧ Fr (VF pv o) w w'
theorem ArPost.step {b : Nat} {o : Option Nat} {room : Nat} {zs : List Cel} {v : Value} {w w' : World} {e : Ending} (h : ArPost b o room zs v w e w') : ArStep (.pointer (some ⟨b, 0, none⟩)) o room zs v w e w' := by
  obtain ⟨he, o', h1, h2, h3⟩ := h
  exact ⟨he, o', ArV.of h1, h2, h3.mono fun g hg => by
    rcases hg with rfl | hg
    · exact .inl rfl
    · exact .inr hg⟩
theorem ArStep.same {pv : Value} {o : Option Nat} {room : Nat} {zs : List Cel} {v : Value} {w w' : World} {e : Ending} (h : ArV w pv o room zs) (he : e = .returned v) (hb : Below w.heap.size w w') : ArStep pv o room zs v w e w' :=
  ⟨he, o, h.below hb, Mv.refl _ _, Fr.of_below hb⟩
instance (c : Cel) (n : Nat) : Decidable (fitC c n) := by unfold fitC; infer_instance
/-- What becomes of a cell put to an arena: the cells, what is told. -/
def putA (room : Nat) (zs : List Cel) (c : Cel) : List Cel × Int × Int :=
  if fitC c zs.length then if zs.length < room then (zs ++ [c], (zs.length : Int) + 1, 0) else (zs, 0, 2) else (zs, 0, 1)
theorem arput_v {pv : Value} {o : Option Nat} {room : Nat} {zs : List Cel} (c : Cel) (w : World) (h : ArV w pv o room zs) (hok : c.ok) : Calls Try.prog 46 #[pv, .agg #[.int .i64 c.l, .int .i64 c.r, .int .i64 c.k, .int .i64 c.v, .int .i64 c.s, .int .i64 c.h]] w (ArStep pv o room (putA room zs c).1 (.tuple #[.int .i64 (putA room zs c).2.1, .int .i64 (putA room zs c).2.2]) w) := by
  unfold putA
  by_cases hc : fitC c zs.length
  · rw [if_pos hc]
    by_cases hf : zs.length < room
    · rw [if_pos hf]
      rcases h with ⟨_, _, rfl, _⟩ | ⟨b, rfl, h⟩
      · omega
      · exact (arput_ok b o room zs c w h hc hf hok).mono fun _ _ hp => hp.step
    · rw [if_neg hf]
      exact (arput_full c w h hc (by have := h.le; omega)).mono fun _ _ hp => .same h hp.1 hp.2
  · rw [if_neg hc]
    exact (arput_bad c w h hc).mono fun _ _ hp => .same h hp.1 hp.2
/-- What becomes of an arena that is cut. -/
def cutA (zs : List Cel) (n : Int) : List Cel × Bool := if 0 ≤ n ∧ n ≤ (zs.length : Int) then (zs.take n.toNat, true) else (zs, false)
theorem arcut_v {pv : Value} {o : Option Nat} {room : Nat} {zs : List Cel} (n : Int) (w : World) (h : ArV w pv o room zs) : Calls Try.prog 44 #[pv, .int .i64 n] w (ArStep pv o room (cutA zs n).1 (.bool (cutA zs n).2) w) := by
  unfold cutA
  rcases h with ⟨rfl, rfl, rfl, rfl⟩ | ⟨b, rfl, h⟩
  · have := arcut_nil n w
    refine this.mono fun e w' ⟨he, hw⟩ => ?_
    subst hw
    have e1 : (n == 0) = (if 0 ≤ n ∧ n ≤ (([] : List Cel).length : Int) then (([] : List Cel).take n.toNat, true) else ([], false)).2 := by
      by_cases hn : n = 0
      · subst hn; rfl
      · rw [beq_eq_false_iff_ne.2 hn, if_neg (by simp; omega)]
    rw [e1] at he
    have e2 : (if 0 ≤ n ∧ n ≤ (([] : List Cel).length : Int) then (([] : List Cel).take n.toNat, true) else ([], false)).1 = [] := by split <;> simp
    rw [e2]
    exact .same (ArV.nil w) he (Below.refl _ _)
  · by_cases hn : 0 ≤ n ∧ n ≤ (zs.length : Int)
    · rw [if_pos hn]
      have := arcut_yes b o room zs n.toNat w h (by omega)
      rw [Int.toNat_of_nonneg hn.1] at this
      exact this.mono fun _ _ hp => hp.step
    · rw [if_neg hn]
      refine (arcut_no b o room zs n w h (by omega)).mono fun e w' ⟨he, hw⟩ => ?_
      subst hw
      exact .same (ArV.of h) he (Below.refl _ _)
end Go.Proofs.Ytbgepeokadmemaa.F
namespace Go.Proofs.Ytbgepeokadmemaa.F
open Go.ChangeShapes Go.WideShapes Go.ChangeAt Go.RowKit Base
/-- An arena that the call made itself. -/
def AI (w0 w : World) (pv : Value) (o : Option Nat) (room : Nat) (zs : List Cel) : Prop := ArV w pv o room zs ∧ Below w0.heap.size w0 w ∧ ∀ g, VF pv o g → w0.heap.size ≤ g
theorem AI.below {w0 w w' : World} {pv : Value} {o : Option Nat} {room : Nat} {zs : List Cel} (h : AI w0 w pv o room zs) (hb : Below w.heap.size w w') : AI w0 w' pv o room zs :=
  ⟨h.1.below hb, h.2.1.trans (hb.mono h.2.1.size), h.2.2⟩
theorem AI.step {w0 w w' : World} {pv v : Value} {o : Option Nat} {room : Nat} {zs zs' : List Cel} {e : Ending} (h : AI w0 w pv o room zs) (hs : ArStep pv o room zs' v w e w') :
    e = .returned v ∧ ∃ o', AI w0 w' pv o' room zs' ∧ w.heap.size ≤ w'.heap.size ∧ Fr (VF pv o) w w' ∧ ∀ g, g < w.heap.size → ¬ VF pv o g → w'.heap[g]? = w.heap[g]? ∧ ¬ VF pv o' g := by
  obtain ⟨he, o', h1, h2, h3⟩ := hs
  refine ⟨he, o', ⟨h1, ?_, fun g hg => ?_⟩, h3.size, h3, fun g hg hn => ⟨h3.block hg hn, fun k => hn (h2.vf g hg k)⟩⟩
  · have := (Fr.of_below (F := VF pv o) h.2.1).trans h3 (fun g _ k => k)
    exact this.below h.2.2 (Nat.le_refl _)
  · rcases Nat.lt_or_ge g w.heap.size with hl | hl
    · exact h.2.2 g (h2.vf g hl hg)
    · exact Nat.le_trans h.2.1.size hl
theorem AI.new {w0 w : World} {b room : Nat} (h : ArAt w b none room []) (hb : Below w0.heap.size w0 w) (hg : w0.heap.size ≤ b) : AI w0 w (.pointer (some ⟨b, 0, none⟩)) none room [] :=
  ⟨ArV.of h, hb, fun g k => by
    rcases k with k | k
    · injection k with k; injection k with k; injection k with k; exact k ▸ hg
    · cases k⟩
/-- A cell's box. -/
def Box (w : World) (g : Nat) (c : Cel) : Prop := w.heap[g]? = some (.cells #[.int .i64 c.l, .int .i64 c.r, .int .i64 c.k, .int .i64 c.v, .int .i64 c.s, .int .i64 c.h] 66)
theorem Box.cells {w : World} {g : Nat} {c : Cel} (h : Box w g c) : g < w.heap.size ∧ (w.cell? ⟨g, 0, none⟩ = some (.int .i64 c.l) ∧ w.cell? ⟨g, 1, none⟩ = some (.int .i64 c.r) ∧ w.cell? ⟨g, 2, none⟩ = some (.int .i64 c.k) ∧ w.cell? ⟨g, 3, none⟩ = some (.int .i64 c.v) ∧ w.cell? ⟨g, 4, none⟩ = some (.int .i64 c.s) ∧ w.cell? ⟨g, 5, none⟩ = some (.int .i64 c.h)) := by
  unfold Box at h
  exact ⟨heap_lt h, by simp [World.cell?, h]⟩
theorem Box.below {w w' : World} {g : Nat} {c : Cel} (h : Box w g c) (hb : Below w.heap.size w w') : Box w' g c := (hb.block g (heap_lt h)).trans h
theorem ArStep.nil_below {o : Option Nat} {room : Nat} {zs : List Cel} {v : Value} {w w' : World} {e : Ending} (h : ArStep (.pointer none) o room zs v w e w') (ho : o = none) : e = .returned v ∧ Below w.heap.size w w' := by
  obtain ⟨he, o', _, _, h3⟩ := h
  subst ho
  refine ⟨he, h3.below (fun g hg => ?_) (Nat.le_refl _)⟩
  rcases hg with k | k <;> cases k
/-- What Get tells, the cell's fields typed out. -/
def GetX (x : Cel) (is : Bool) (w : World) (e : Ending) (w' : World) : Prop := e = .returned (.tuple #[.agg #[.int .i64 x.l, .int .i64 x.r, .int .i64 x.k, .int .i64 x.v, .int .i64 x.s, .int .i64 x.h], .bool is]) ∧ Below w.heap.size w w'
theorem arget_x {pv : Value} {o : Option Nat} {room : Nat} {zs : List Cel} (i : Int) (x : Cel) (is : Bool) (w : World) (h : ArV w pv o room zs) (hx : celAt zs i = x) (hi : decide (1 ≤ i ∧ i ≤ (zs.length : Int)) = is) : Calls Try.prog 48 #[pv, .int .i64 i] w (GetX x is w) := by
  have := arget_v i w h
  rw [hx, hi] at this
  exact this
end Go.Proofs.Ytbgepeokadmemaa.F
namespace Go.Proofs.Ytbgepeokadmemaa.F
open Go.ChangeShapes Go.WideShapes Go.ChangeAt Go.RowKit Base
theorem room_ref (n : Int) (w : World) : Calls Try.prog 28 #[.int .i64 n] w fun e w' => e = .returned (.int .i64 (roomOf n : Nat)) ∧ w = w' := by
  rw [roomOf_eq]
  by_cases h1 : n < 0
  · rw [show min (max n 0) 65536 = 0 by omega]
    go_enter Try.func28, Try.ntmps28
    go_wp2
    go_ret
    exact ⟨rfl, rfl⟩
  · have h1' : 0 ≤ n := by omega
    by_cases h2 : 65536 < n
    · rw [show min (max n 0) 65536 = 65536 by omega]
      clear h1
      go_enter Try.func28, Try.ntmps28
      go_wp2
      go_ret
      exact ⟨rfl, rfl⟩
    · rw [show min (max n 0) 65536 = n by omega]
      clear h1
      go_enter Try.func28, Try.ntmps28
      go_wp2
      go_ret
      exact ⟨rfl, rfl⟩
end Go.Proofs.Ytbgepeokadmemaa.F
