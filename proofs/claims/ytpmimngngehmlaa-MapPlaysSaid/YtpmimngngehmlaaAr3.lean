/-
  Contracts of arenas: Put. Not a statement of the seat.
-/
import Derived.Test.YtpmimngngehmlaaAr2
namespace Go.Proofs.Ytpmimngngehmlaa.F
open Go.ChangeShapes Go.WideShapes Go.ChangeAt Go.RowKit Base
/-- Is a cell right for an arena that has n cells? -/
def fitC (c : Cel) (n : Nat) : Prop := (0 ≤ c.l ∧ c.l ≤ (n : Int)) ∧ (0 ≤ c.r ∧ c.r ≤ (n : Int))
theorem Cel.box (c : Cel) (w : World) : Below w.heap.size w (w.alloc (.cells #[.int .i64 c.l, .int .i64 c.r, .int .i64 c.k, .int .i64 c.v, .int .i64 c.s, .int .i64 c.h] 110)) := (Below.refl _ _).alloc (Nat.le_refl _) _
/-- What a call that tells a number, and why there is none, and may make memory, leaves. -/
def NumPost (i y : Int) (w : World) (e : Ending) (w' : World) : Prop := e = .returned (.tuple #[.int .i64 i, .int .i64 y]) ∧ Below w.heap.size w w'
set_option maxHeartbeats 2000000 in
theorem arput_bad {pv : Value} {o : Option Nat} {room : Nat} {zs : List Cel} (c : Cel) (w : World) (h : ArV w pv o room zs) (hc : ¬ fitC c zs.length) : Calls Try.prog 111 #[pv, .agg #[.int .i64 c.l, .int .i64 c.r, .int .i64 c.k, .int .i64 c.v, .int .i64 c.s, .int .i64 c.h]] w (NumPost 0 1 w) := by
  have HB := Lib.hid (c.box w)
  have h' := h.below HB.out
  clear h
  by_cases h1 : 0 ≤ c.l ∧ c.l ≤ (zs.length : Int)
  · have HL := Lib.hid (armay c.l h')
    rw [show decide (0 ≤ c.l ∧ c.l ≤ (zs.length : Int)) = true by rw [decide_eq_true_eq]; exact h1] at HL
    have HM := Lib.hid (armay c.r h')
    rw [show decide (0 ≤ c.r ∧ c.r ≤ (zs.length : Int)) = false by rw [decide_eq_false_iff_not]; exact fun e => hc ⟨h1, e⟩] at HM
    clear hc h' h1
    go_enter Try.func111, Try.ntmps111
    go_wp2_with fail
    refine (HL.out).mono ?_
    rintro e w1 ⟨rfl, rfl⟩
    go_wp2_with fail
    refine (HM.out).mono ?_
    rintro e w1 ⟨rfl, rfl⟩
    go_wp2
    go_ret2
    exact ⟨rfl, HB.out⟩
  · have HL := Lib.hid (armay c.l h')
    rw [show decide (0 ≤ c.l ∧ c.l ≤ (zs.length : Int)) = false by rw [decide_eq_false_iff_not]; exact h1] at HL
    clear hc h' h1
    go_enter Try.func111, Try.ntmps111
    go_wp2_with fail
    refine (HL.out).mono ?_
    rintro e w1 ⟨rfl, rfl⟩
    go_wp2
    go_ret2
    exact ⟨rfl, HB.out⟩
theorem arput_may {pv : Value} {o : Option Nat} {room : Nat} {zs : List Cel} {c : Cel} {w : World} (h : ArV w pv o room zs) (hc : fitC c zs.length) : Calls Try.prog 122 #[pv, .int .i64 c.l] w (BoolSame true w) ∧ Calls Try.prog 122 #[pv, .int .i64 c.r] w (BoolSame true w) := by
  have h1 := armay c.l h
  have h2 := armay c.r h
  rw [show decide (0 ≤ c.l ∧ c.l ≤ (zs.length : Int)) = true by rw [decide_eq_true_eq]; exact hc.1] at h1
  rw [show decide (0 ≤ c.r ∧ c.r ≤ (zs.length : Int)) = true by rw [decide_eq_true_eq]; exact hc.2] at h2
  exact ⟨h1, h2⟩
set_option maxHeartbeats 2000000 in
theorem arput_full {pv : Value} {o : Option Nat} {room : Nat} {zs : List Cel} (c : Cel) (w : World) (h : ArV w pv o room zs) (hc : fitC c zs.length) (hf : zs.length = room) : Calls Try.prog 111 #[pv, .agg #[.int .i64 c.l, .int .i64 c.r, .int .i64 c.k, .int .i64 c.v, .int .i64 c.s, .int .i64 c.h]] w (NumPost 0 2 w) := by
  have HB := Lib.hid (c.box w)
  have h' := h.below HB.out
  have HL := Lib.hid (arput_may h' hc).1
  have HM := Lib.hid (arput_may h' hc).2
  have HR := Lib.hid (arroom_v h')
  have e0 : (room : Int) - (zs.length : Int) = 0 := by omega
  rw [e0] at HR
  clear h hf e0 hc h'
  go_enter Try.func111, Try.ntmps111
  go_wp2_with fail
  refine (HL.out).mono ?_
  rintro e w1 ⟨rfl, rfl⟩
  go_wp2_with fail
  refine (HM.out).mono ?_
  rintro e w1 ⟨rfl, rfl⟩
  go_wp2_with fail
  refine (HR.out).mono ?_
  rintro e w1 ⟨rfl, n, rfl⟩
  go_wp2
  go_ret2
  exact ⟨rfl, below_drewN HB.out n⟩
theorem put_step {w w1 X w' : World} {b room : Nat} {o : Option Nat} {zs : List Cel} {c : Cel} {p : Option Addr} {cp : Nat} {v' V : Value} {oo : Obj} (hA : ArAt w1 b o room zs) (hb : w1.heap[b]? = some (.cells #[.int .i64 (room : Int), .slice p zs.length cp] 100)) (hbo : (Value.slice p zs.length cp).ownBlock = o) (hw : Below w.heap.size w w1)
    (hX : X.os = w1.os ∧ X.tape = w1.tape ∧ X.output = w1.output ∧ X.heap = w1.heap) (hf : zs.length < room) (hc : c.ok) (hfit : fitC c zs.length) (ho : OwnCel 0 w' v' (zs ++ [c])) (hg : (X.alloc oo).grownBy w' (Value.slice p zs.length cp).ownBlock) (hat : v'.ownBlock = (Value.slice p zs.length cp).ownBlock ∨ v'.ownBlock = some (X.alloc oo).heap.size) :
    ∃ g cap, v' = .slice (some ⟨g, 0, none⟩) (zs.length + 1) cap ∧ w'.cell? ⟨b, 1, none⟩ = some (.slice p zs.length cp) ∧ w'.frozen? ⟨b, 1, none⟩ = false ∧ Hid (ArPost b o room (zs ++ [c]) V w (.returned V) (w'.setCell ⟨b, 1, none⟩ v')) := by
  obtain ⟨g, cap, hv⟩ : ∃ g cap, v' = .slice (some ⟨g, 0, none⟩) (zs.length + 1) cap := by
    rcases ho.2 with ⟨_, h0⟩ | ⟨g, cap, cur, hv, _⟩
    · simp at h0
    · exact ⟨g, cap, by simpa using hv⟩
  have hlt := hA.lt
  have hne : (Value.slice p zs.length cp).ownBlock ≠ some b := fun e => (hlt.2 b (hbo.symm.trans e)).2 rfl
  have hsz : (X.alloc oo).heap.size = w1.heap.size + 1 := by simp [hX.2.2.2]
  have hb1 : (X.alloc oo).heap[b]? = some (.cells #[.int .i64 (room : Int), .slice p zs.length cp] 100) := heap_alloc_lt _ _ _ _ (by rw [hX.2.2.2]; exact hb)
  have hb2 : w'.heap[b]? = some (.cells #[.int .i64 (room : Int), .slice p zs.length cp] 100) := (hg.block b (heap_lt hb1) (fun e => hne e.symm)).trans hb1
  have hFr : Fr (ArF b o) w w' := by
    have f1 : Fr (ArF b o) w w1 := Fr.of_below hw
    have f2 : Fr (ArF b o) w X := ⟨hX.1.trans f1.1, hX.2.1.trans f1.2.1, hX.2.2.1.trans f1.2.2.1, by rw [hX.2.2.2]; exact f1.size, fun g hg hn => by rw [hX.2.2.2]; exact f1.block hg hn⟩
    exact (f2.alloc oo).trans (Fr.of_grown (F := fun g => o = some g) hg (fun k hk => hbo.symm.trans hk)) (fun g _ e => .inr e)
  refine ⟨g, cap, hv, by simp [World.cell?, hb2], by simp [World.frozen?, hb2], Lib.hid ⟨rfl, v'.ownBlock, ?_, ?_, hFr.setCell (.inl rfl) 1 _⟩⟩
  · refine ArAt.store ⟨_, hb2⟩ ho rfl hA.1 (by rw [List.length_append, List.length_singleton]; omega) (fun x hx => ?_) (hA.2.2.2.1.snoc hfit)
    rcases List.mem_append.1 hx with h | h
    · exact hA.2.2.1 x h
    · rw [List.mem_singleton.1 h]; exact hc
  · rcases hat with h | h
    · exact .inl (h.trans hbo)
    · exact .inr ⟨_, h, by have := hw.size; omega⟩
set_option maxHeartbeats 2000000 in
theorem arput_ok (b : Nat) (o : Option Nat) (room : Nat) (zs : List Cel) (c : Cel) (w : World) (h : ArAt w b o room zs) (hc : fitC c zs.length) (hf : zs.length < room) (hok : c.ok) : Calls Try.prog 111 #[.pointer (some ⟨b, 0, none⟩), .agg #[.int .i64 c.l, .int .i64 c.r, .int .i64 c.k, .int .i64 c.v, .int .i64 c.s, .int .i64 c.h]] w (ArPost b o room (zs ++ [c]) (.tuple #[.int .i64 ((zs.length : Int) + 1), .int .i64 0]) w) := by
  have HB := Lib.hid (c.box w)
  have HA := Lib.hid (h.below HB.out)
  have HL := Lib.hid (arput_may (ArV.of HA.out) hc).1
  have HM := Lib.hid (arput_may (ArV.of HA.out) hc).2
  have hfit := hc
  have HR := Lib.hid (arroom_any b o room zs _ HA.out)
  have hne : ((room : Int) - (zs.length : Int) == 0) = false := by rw [beq_eq_false_iff_ne]; omega
  have hll := h.2.1
  have hrr := h.1
  have hbw := h.lt.1
  clear h
  unfold fitC at hc
  obtain ⟨⟨h1, h2⟩, h3, h4⟩ := hc
  obtain ⟨p, cp, ⟨q0, q1⟩, ⟨f0, f1⟩, hown, hoo, hb⟩ := HA.out.open_
  have HO := Lib.hid hown
  have qq : w.cell? ⟨b, 1, none⟩ = some (.slice p zs.length cp) := by
    rw [← q1]
    simp only [World.cell?]
    rw [Below.heap_alloc _ _ _ hbw]
  have HS : Hid (∀ (X w' : World) (v' : Value) (oo : Obj),
      OwnCel 0 w' v' (zs ++ [c]) → (X.alloc oo).grownBy w' (Value.slice p zs.length cp).ownBlock → (v'.ownBlock = (Value.slice p zs.length cp).ownBlock ∨ v'.ownBlock = some (X.alloc oo).heap.size) → X.os = (w.alloc (.cells #[.int .i64 c.l, .int .i64 c.r, .int .i64 c.k, .int .i64 c.v, .int .i64 c.s, .int .i64 c.h] 110)).os ∧ X.tape = (w.alloc (.cells #[.int .i64 c.l, .int .i64 c.r, .int .i64 c.k, .int .i64 c.v, .int .i64 c.s, .int .i64 c.h] 110)).tape ∧ X.output = (w.alloc (.cells #[.int .i64 c.l, .int .i64 c.r, .int .i64 c.k, .int .i64 c.v, .int .i64 c.s, .int .i64 c.h] 110)).output ∧ X.heap = (w.alloc (.cells #[.int .i64 c.l, .int .i64 c.r, .int .i64 c.k, .int .i64 c.v, .int .i64 c.s, .int .i64 c.h] 110)).heap →
      ∃ g cap, v' = .slice (some ⟨g, 0, none⟩) (zs.length + 1) cap ∧ w'.cell? ⟨b, 1, none⟩ = some (.slice p zs.length cp) ∧ w'.frozen? ⟨b, 1, none⟩ = false ∧ Hid (ArPost b o room (zs ++ [c]) (.tuple #[.int .i64 ((zs.length : Int) + 1), .int .i64 0]) w (.returned (.tuple #[.int .i64 ((zs.length : Int) + 1), .int .i64 0])) (w'.setCell ⟨b, 1, none⟩ v'))) :=
    Lib.hid fun X w' v' oo h1 h2 h3 hX => put_step HA.out hb hoo HB.out hX hf hok hfit h1 h2 h3
  clear hown hoo hb hf hok hfit
  generalize ArPost b o room (zs ++ [c]) (.tuple #[.int .i64 ((zs.length : Int) + 1), .int .i64 0]) w = Post at HS ⊢
  go_enter Try.func111, Try.ntmps111
  go_wp2_with fail
  refine (HL.out).mono ?_
  rintro e w1 ⟨rfl, rfl⟩
  go_wp2_with fail
  refine (HM.out).mono ?_
  rintro e w1 ⟨rfl, rfl⟩
  go_wp2_with fail
  refine (HR.out).mono ?_
  rintro e w1 ⟨rfl, n, rfl⟩
  go_wp2_with fail
  go_region_law (refine step_append_cels rfl (.tmp 27) (.tmp 29) rfl (Nat.zero_le _) (OwnCel.lay HO.out rfl _) (by simp [Act.eval]) (cel_lit c _) (by simp [Act.eval]) (by simp; omega) ?_; intro v' w' ho hg hat; obtain ⟨g, cap, rfl, c1, c2, HE⟩ := HS.out _ _ _ _ ho hg hat ⟨rfl, rfl, rfl, rfl⟩; clear ho hg hat)
  all_goals go_wp2
  all_goals exact HE.out
end Go.Proofs.Ytpmimngngehmlaa.F
