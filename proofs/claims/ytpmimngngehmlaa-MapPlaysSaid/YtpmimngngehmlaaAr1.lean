/-
  Contracts of arenas: New, Len, Room, Get. Not a statement of the seat.
-/
import Derived.Test.YtpmimngngehmlaaFCel
import Derived.Test.YtpmimngngehmlaaFrame
import Derived.Deep.QuietTactic
import Derived.RegionTactic
import Derived.BigRegion
namespace Go.Proofs.Ytpmimngngehmlaa.F
open Go.ChangeShapes Go.WideShapes Go.ChangeAt Go.RowKit Base
/-- Each cell points to cells ahead of it. -/
def Bk (zs : List Cel) : Prop := ∀ (i : Nat) (c : Cel), zs[i]? = some c → (0 ≤ c.l ∧ c.l ≤ (i : Int)) ∧ (0 ≤ c.r ∧ c.r ≤ (i : Int))
theorem Bk.nil : Bk [] := fun i c h => by simp at h
theorem Bk.snoc {zs : List Cel} {c : Cel} (h : Bk zs) (hc : (0 ≤ c.l ∧ c.l ≤ (zs.length : Int)) ∧ (0 ≤ c.r ∧ c.r ≤ (zs.length : Int))) : Bk (zs ++ [c]) := fun i x hx => by
  rcases Nat.lt_trichotomy i zs.length with hi | hi | hi
  · rw [List.getElem?_append_left hi] at hx; exact h i x hx
  · subst hi
    simp at hx
    subst hx
    exact hc
  · rw [List.getElem?_eq_none (by simp; omega)] at hx; cases hx
theorem Bk.take {zs : List Cel} (h : Bk zs) (n : Nat) : Bk (zs.take n) := fun i x hx => by
  rw [List.getElem?_take] at hx
  split at hx
  · exact h i x hx
  · cases hx
/-- Block b is an arena of that room with the cells zs, which lie in block o. -/
def ArAt (w : World) (b : Nat) (o : Option Nat) (room : Nat) (zs : List Cel) : Prop :=
  room ≤ 65536 ∧ zs.length ≤ room ∧ (∀ x ∈ zs, x.ok) ∧ Bk zs ∧ ∃ v, w.heap[b]? = some (.cells #[.int .i64 (room : Int), v] 100) ∧ OwnCel 0 w v zs ∧ v.ownBlock = o
theorem neAr : 100 ≠ 110 := by decide
theorem ArAt.lt {w : World} {b : Nat} {o : Option Nat} {room : Nat} {zs : List Cel} (h : ArAt w b o room zs) : b < w.heap.size ∧ ∀ g, o = some g → g < w.heap.size ∧ g ≠ b := by
  obtain ⟨_, _, _, _, v, hb, hown, rfl⟩ := h
  refine ⟨heap_lt hb, fun g hg => ⟨(hown.base g hg).2, fun e => ?_⟩⟩
  have := own_ne hown hb neAr
  rw [e] at hg
  exact this hg
theorem ArAt.fr {w w' : World} {F : Nat → Prop} {b : Nat} {o : Option Nat} {room : Nat} {zs : List Cel} (h : ArAt w b o room zs) (hf : Fr F w w') (hb : ¬ F b) (ho : ∀ g, o = some g → ¬ F g) : ArAt w' b o room zs := by
  have hl := h.lt
  obtain ⟨h1, h2, h3, h4, v, hv, hown, rfl⟩ := h
  refine ⟨h1, h2, h3, h4, v, (hf.block hl.1 hb).trans hv, ?_, rfl⟩
  refine ⟨hown.1, ?_⟩
  rcases hown.2 with hn | ⟨g, cap, cur, rfl, hB, hg, rest⟩
  · exact .inl hn
  · exact .inr ⟨g, cap, cur, rfl, hB, (hf.block (heap_lt hg) (ho g rfl)).trans hg, rest⟩
theorem ArAt.below {w w' : World} {b : Nat} {o : Option Nat} {room : Nat} {zs : List Cel} (h : ArAt w b o room zs) (hb : Below w.heap.size w w') : ArAt w' b o room zs :=
  h.fr (Fr.of_below (F := fun _ => False) hb) (fun e => e) (fun _ _ e => e)
theorem ArAt.open_ {w : World} {b : Nat} {o : Option Nat} {room : Nat} {zs : List Cel} (h : ArAt w b o room zs) : ∃ p c, (w.cell? ⟨b, 0, none⟩ = some (.int .i64 (room : Int)) ∧ w.cell? ⟨b, 1, none⟩ = some (.slice p zs.length c)) ∧ (w.frozen? ⟨b, 0, none⟩ = false ∧ w.frozen? ⟨b, 1, none⟩ = false) ∧ OwnCel 0 w (.slice p zs.length c) zs ∧ (Value.slice p zs.length c).ownBlock = o ∧ w.heap[b]? = some (.cells #[.int .i64 (room : Int), .slice p zs.length c] 100) := by
  obtain ⟨_, _, _, _, v, hb, hown, ho⟩ := h
  obtain ⟨p, c, rfl⟩ : ∃ p c, v = .slice p zs.length c := by
    rcases hown.2 with ⟨hv, h0⟩ | ⟨g, cap, cur, hv, _⟩
    · exact ⟨none, 0, by rw [hv, h0]⟩
    · exact ⟨_, _, hv⟩
  exact ⟨p, c, by simp [World.cell?, hb], by simp [World.frozen?, hb], hown, ho, hb⟩
/-- The room of an arena of which so much was asked. -/
def roomOf (n : Int) : Nat := (min (max n 0) 65536).toNat
theorem roomOf_eq (n : Int) : ((roomOf n : Nat) : Int) = min (max n 0) 65536 := by unfold roomOf; omega
theorem roomOf_le (n : Int) : roomOf n ≤ 65536 := by unfold roomOf; omega
theorem arnew_any (n : Int) (w : World) : Calls Try.prog 13 #[.int .i64 n] w fun e w' => e = .returned (.pointer (some ⟨w.heap.size, 0, none⟩)) ∧ ArAt w' w.heap.size none (roomOf n) [] ∧ Below w.heap.size w w' := by
  have key : ∀ r : Int, r = min (max n 0) 65536 → ArAt (w.alloc (.cells #[.int .i64 r, .slice none 0 0] 100)) w.heap.size none (roomOf n) [] := fun r hr => by
    rw [← roomOf_eq] at hr
    subst hr
    exact ⟨roomOf_le n, Nat.zero_le _, fun x hx => (List.not_mem_nil hx).elim, Bk.nil, .slice none 0 0, heap_alloc_at _ _ _ rfl, OwnCel.nil _ _, rfl⟩
  rcases (show n < 0 ∨ 0 ≤ n ∧ n ≤ 65536 ∨ 65536 < n from by omega) with h | ⟨h1, h2⟩ | h
  · have K := Lib.hid (key 0 (by omega))
    clear key
    go_enter Try.func13, Try.ntmps13
    go_wp2
    go_ret
    exact ⟨rfl, K.out, by go_grown⟩
  · have K := Lib.hid (key n (by omega))
    clear key
    go_enter Try.func13, Try.ntmps13
    go_wp2
    go_ret
    exact ⟨rfl, K.out, by go_grown⟩
  · have K := Lib.hid (key 65536 (by omega))
    clear key
    go_enter Try.func13, Try.ntmps13
    go_wp2
    go_ret
    exact ⟨rfl, K.out, by go_grown⟩
theorem arlen_any (b : Nat) (o : Option Nat) (room : Nat) (zs : List Cel) (w : World) (h : ArAt w b o room zs) : Calls Try.prog 60 #[.pointer (some ⟨b, 0, none⟩)] w fun e w' => e = .returned (.int .i64 (zs.length : Int)) ∧ w = w' := by
  obtain ⟨p, c, ⟨h0, h1⟩, _⟩ := h.open_
  clear h
  go_enter Try.func60, Try.ntmps60
  go_wp2
  go_ret
  exact ⟨rfl, rfl⟩
theorem arlen_nil (w : World) : Calls Try.prog 60 #[.pointer none] w fun e w' => e = .returned (.int .i64 0) ∧ w = w' := by
  go_enter Try.func60, Try.ntmps60
  go_wp2
  go_ret
  exact ⟨rfl, rfl⟩
/-- What a call that tells a number, and draws, leaves. -/
def IntDrew (r : Int) (w : World) (e : Ending) (w' : World) : Prop := e = .returned (.int .i64 r) ∧ ∃ n, w' = w.drewN n
theorem arroom_any (b : Nat) (o : Option Nat) (room : Nat) (zs : List Cel) (w : World) (h : ArAt w b o room zs) : Calls Try.prog 58 #[.pointer (some ⟨b, 0, none⟩)] w (IntDrew ((room : Int) - (zs.length : Int)) w) := by
  obtain ⟨p, c, ⟨h0, h1⟩, _⟩ := h.open_
  have hr := h.1
  have hl := h.2.1
  have e1 : IntKind.i64.wrap ((room : Int) - (zs.length : Int)) = (room : Int) - (zs.length : Int) := by rw [IntKind.wrap_i64]; omega
  clear h
  go_enter Try.func58, Try.ntmps58
  go_wp2
  go_quiet (fail)
  go_wp2
  go_ret
  exact ⟨rfl, _, rfl⟩
theorem arroom_nil (w : World) : Calls Try.prog 58 #[.pointer none] w (IntDrew 0 w) := by
  go_enter Try.func58, Try.ntmps58
  go_wp2
  go_ret
  exact ⟨rfl, 0, rfl⟩
/-- What a call that tells a bool leaves. -/
def BoolSame (is : Bool) (w : World) (e : Ending) (w' : World) : Prop := e = .returned (.bool is) ∧ w = w'
/-- An arena, or none, by its pointer. -/
def ArV (w : World) (pv : Value) (o : Option Nat) (room : Nat) (zs : List Cel) : Prop := (pv = .pointer none ∧ o = none ∧ room = 0 ∧ zs = []) ∨ ∃ b, pv = .pointer (some ⟨b, 0, none⟩) ∧ ArAt w b o room zs
theorem ArV.of {w : World} {b : Nat} {o : Option Nat} {room : Nat} {zs : List Cel} (h : ArAt w b o room zs) : ArV w (.pointer (some ⟨b, 0, none⟩)) o room zs := .inr ⟨b, rfl, h⟩
theorem ArV.nil (w : World) : ArV w (.pointer none) none 0 [] := .inl ⟨rfl, rfl, rfl, rfl⟩
theorem ArV.below {w w' : World} {pv : Value} {o : Option Nat} {room : Nat} {zs : List Cel} (h : ArV w pv o room zs) (hb : Below w.heap.size w w') : ArV w' pv o room zs := by
  rcases h with h | ⟨b, e, h⟩
  · exact .inl h
  · exact .inr ⟨b, e, h.below hb⟩
theorem ArV.le {w : World} {pv : Value} {o : Option Nat} {room : Nat} {zs : List Cel} (h : ArV w pv o room zs) : zs.length ≤ room ∧ room ≤ 65536 := by
  rcases h with ⟨_, _, rfl, rfl⟩ | ⟨b, e, h⟩
  · exact ⟨Nat.le_refl _, by decide⟩
  · exact ⟨h.2.1, h.1⟩
theorem ArV.bk {w : World} {pv : Value} {o : Option Nat} {room : Nat} {zs : List Cel} (h : ArV w pv o room zs) : Bk zs := by
  rcases h with ⟨_, _, rfl, rfl⟩ | ⟨b, e, h⟩
  · exact Bk.nil
  · exact h.2.2.2.1
theorem ArV.oks {w : World} {pv : Value} {o : Option Nat} {room : Nat} {zs : List Cel} (h : ArV w pv o room zs) : ∀ x ∈ zs, x.ok := by
  rcases h with ⟨_, _, rfl, rfl⟩ | ⟨b, e, h⟩
  · exact fun x hx => (List.not_mem_nil hx).elim
  · exact h.2.2.1
theorem arlen_v {pv : Value} {o : Option Nat} {room : Nat} {zs : List Cel} {w : World} (h : ArV w pv o room zs) : Calls Try.prog 60 #[pv] w fun e w' => e = .returned (.int .i64 (zs.length : Int)) ∧ w = w' := by
  rcases h with ⟨rfl, _, _, rfl⟩ | ⟨b, rfl, h⟩
  · exact arlen_nil w
  · exact arlen_any b o room zs w h
theorem arroom_v {pv : Value} {o : Option Nat} {room : Nat} {zs : List Cel} {w : World} (h : ArV w pv o room zs) : Calls Try.prog 58 #[pv] w (IntDrew ((room : Int) - (zs.length : Int)) w) := by
  rcases h with ⟨rfl, _, rfl, rfl⟩ | ⟨b, rfl, h⟩
  · exact arroom_nil w
  · exact arroom_any b o room zs w h
theorem ariscell {pv : Value} {o : Option Nat} {room : Nat} {zs : List Cel} {w : World} (i : Int) (h : ArV w pv o room zs) : Calls Try.prog 119 #[pv, .int .i64 i] w (BoolSame (decide (1 ≤ i ∧ i ≤ (zs.length : Int))) w) := by
  have HL := Lib.hid (arlen_v h)
  clear h
  by_cases h1 : 1 ≤ i
  · have e : decide (1 ≤ i ∧ i ≤ (zs.length : Int)) = decide (i ≤ (zs.length : Int)) := by simp [h1]
    rw [e]
    clear e
    go_enter Try.func119, Try.ntmps119
    go_wp2_with fail
    refine (HL.out).mono ?_
    rintro e w1 ⟨rfl, rfl⟩
    go_wp2
    go_ret
    exact ⟨rfl, rfl⟩
  · have e : decide (1 ≤ i ∧ i ≤ (zs.length : Int)) = false := by simp [h1]
    rw [e]
    have h2 : i < 1 := by omega
    clear e h1
    go_enter Try.func119, Try.ntmps119
    go_wp2
    go_ret
    exact ⟨rfl, rfl⟩
theorem armay {pv : Value} {o : Option Nat} {room : Nat} {zs : List Cel} {w : World} (i : Int) (h : ArV w pv o room zs) : Calls Try.prog 122 #[pv, .int .i64 i] w (BoolSame (decide (0 ≤ i ∧ i ≤ (zs.length : Int))) w) := by
  have HL := Lib.hid (ariscell i h)
  clear h
  by_cases h1 : i = 0
  · subst h1
    have e : decide (0 ≤ (0 : Int) ∧ 0 ≤ (zs.length : Int)) = true := by simp
    rw [e]
    clear e
    go_enter Try.func122, Try.ntmps122
    go_wp2
    go_ret
    exact ⟨rfl, rfl⟩
  · have e : decide (0 ≤ i ∧ i ≤ (zs.length : Int)) = decide (1 ≤ i ∧ i ≤ (zs.length : Int)) := by
      rw [decide_eq_decide]; omega
    rw [e]
    have h2 : (i == 0) = false := by rw [beq_eq_false_iff_ne]; exact h1
    clear e h1
    generalize decide (1 ≤ i ∧ i ≤ (zs.length : Int)) = q at HL ⊢
    go_enter Try.func122, Try.ntmps122
    go_wp2_with fail
    refine (HL.out).mono ?_
    rintro e w1 ⟨rfl, rfl⟩
    go_wp2
    go_ret
    exact ⟨rfl, rfl⟩
end Go.Proofs.Ytpmimngngehmlaa.F
