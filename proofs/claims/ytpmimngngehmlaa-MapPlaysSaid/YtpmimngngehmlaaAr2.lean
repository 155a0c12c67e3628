/-
  Contracts of arenas: Get, Cut, Put. Not a statement of the seat.
-/
import Derived.Test.YtpmimngngehmlaaAr1
namespace Go.Proofs.Ytpmimngngehmlaa.F
open Go.ChangeShapes Go.WideShapes Go.ChangeAt Go.RowKit Base
/-- A cell by value. -/
def Cel.agg (x : Cel) : Value := .agg #[.int .i64 x.l, .int .i64 x.r, .int .i64 x.k, .int .i64 x.v, .int .i64 x.s, .int .i64 x.h]
/-- What Get tells. -/
def GetPost (x : Cel) (is : Bool) (w : World) (e : Ending) (w' : World) : Prop := e = .returned (.tuple #[x.agg, .bool is]) ∧ Below w.heap.size w w'
theorem ArAt.cells {w : World} {b : Nat} {o : Option Nat} {room : Nat} {zs : List Cel} (h : ArAt w b o room zs) : ∃ p c, (w.cell? ⟨b, 0, none⟩ = some (.int .i64 (room : Int)) ∧ w.cell? ⟨b, 1, none⟩ = some (.slice p zs.length c)) ∧ Cels 0 w (.slice p zs.length c) zs := by
  obtain ⟨p, c, h1, _, h3, _⟩ := h.open_
  have := h.2.1
  have := h.1
  exact ⟨p, c, h1, h3.list (by omega)⟩
set_option maxHeartbeats 1000000 in
theorem arget_yes (b : Nat) (o : Option Nat) (room : Nat) (zs : List Cel) (i : Nat) (w : World) (h : ArAt w b o room zs) (hi : i < zs.length) : Calls Try.prog 107 #[.pointer (some ⟨b, 0, none⟩), .int .i64 ((i : Int) + 1)] w (GetPost (zs.getD i Cel.zero) true w) := by
  have HA := Lib.hid h
  have hr := h.1
  have hl := h.2.1
  obtain ⟨p, c, ⟨h0, h1⟩, hc⟩ := h.cells
  obtain ⟨g, o', rfl, _, hg, hcells⟩ : ∃ g o', p = some ⟨g, o', none⟩ ∧ True ∧ g < w.heap.size ∧ w.cell? ⟨g, o' + i * 6, none⟩ = some (.int .i64 (zs.getD i Cel.zero).l) ∧ w.cell? ⟨g, o' + i * 6 + 1, none⟩ = some (.int .i64 (zs.getD i Cel.zero).r) ∧ w.cell? ⟨g, o' + i * 6 + 2, none⟩ = some (.int .i64 (zs.getD i Cel.zero).k) ∧ w.cell? ⟨g, o' + i * 6 + 3, none⟩ = some (.int .i64 (zs.getD i Cel.zero).v) ∧ w.cell? ⟨g, o' + i * 6 + 4, none⟩ = some (.int .i64 (zs.getD i Cel.zero).s) ∧ w.cell? ⟨g, o' + i * 6 + 5, none⟩ = some (.int .i64 (zs.getD i Cel.zero).h) := by
    obtain ⟨p', c', hv, _, hk⟩ := hc.open_
    injection hv with e1 e2 e3
    subst e1
    obtain ⟨g, o', hp, _, hg, hh⟩ := hk i hi
    exact ⟨g, o', hp, trivial, hg, hh⟩
  obtain ⟨c0, c1, c2, c3, c4, c5⟩ := hcells
  generalize zs.getD i Cel.zero = x at c0 c1 c2 c3 c4 c5 ⊢
  have HL : Hid (∀ w1, Below w.heap.size w w1 → Calls Try.prog 119 #[.pointer (some ⟨b, 0, none⟩), .int .i64 ((i : Int) + 1)] w1 (BoolSame true w1)) := Lib.hid fun w1 hb => by
    have h1 := ariscell ((i : Int) + 1) (ArV.of (HA.out.below hb))
    rwa [show decide (1 ≤ (i : Int) + 1 ∧ (i : Int) + 1 ≤ (zs.length : Int)) = true by rw [decide_eq_true_eq]; omega] at h1
  have HB := Lib.hid ((Below.refl w.heap.size w).alloc (Nat.le_refl _) (.cells #[.int .i64 0, .int .i64 0, .int .i64 0, .int .i64 0, .int .i64 0, .int .i64 0] 110))
  have hbl := HA.out.lt.1
  have e1 : IntKind.i64.wrap ((i : Int) + 1 - 1) = (i : Int) := by rw [IntKind.wrap_i64]; omega
  clear h hc HA
  go_enter Try.func107, Try.ntmps107
  go_wp2_with fail
  refine (HL.out _ HB.out).mono ?_
  rintro e w1 ⟨rfl, rfl⟩
  go_wp2
  exact bodyPost_ret (v := .tuple #[x.agg, .bool true]) (by simp [results, Try.results107, go_sem, Cel.agg]) rfl ⟨rfl, by go_grown⟩
theorem Cel.zero_agg : Cel.zero.agg = .agg #[.int .i64 0, .int .i64 0, .int .i64 0, .int .i64 0, .int .i64 0, .int .i64 0] := rfl
theorem arget_no {pv : Value} {o : Option Nat} {room : Nat} {zs : List Cel} (i : Int) (w : World) (h : ArV w pv o room zs) (hi : i < 1 ∨ (zs.length : Int) < i) : Calls Try.prog 107 #[pv, .int .i64 i] w (GetPost Cel.zero false w) := by
  have HL : Hid (∀ w1, Below w.heap.size w w1 → Calls Try.prog 119 #[pv, .int .i64 i] w1 (BoolSame false w1)) := Lib.hid fun w1 hb => by
    have h1 := ariscell i (h.below hb)
    rwa [show decide (1 ≤ i ∧ i ≤ (zs.length : Int)) = false by rw [decide_eq_false_iff_not]; omega] at h1
  have HB := Lib.hid ((Below.refl w.heap.size w).alloc (Nat.le_refl _) (.cells #[.int .i64 0, .int .i64 0, .int .i64 0, .int .i64 0, .int .i64 0, .int .i64 0] 110))
  clear h hi
  go_enter Try.func107, Try.ntmps107
  go_wp2_with fail
  refine (HL.out _ HB.out).mono ?_
  rintro e w1 ⟨rfl, rfl⟩
  go_wp2
  exact bodyPost_ret (v := .tuple #[Cel.zero.agg, .bool false]) (by simp [results, Try.results107, go_sem, Cel.zero_agg]) rfl ⟨rfl, by go_grown⟩
/-- The cell of a number. -/
def celAt (zs : List Cel) (i : Int) : Cel := if 1 ≤ i then zs.getD (i.toNat - 1) Cel.zero else Cel.zero
theorem arget_v {pv : Value} {o : Option Nat} {room : Nat} {zs : List Cel} (i : Int) (w : World) (h : ArV w pv o room zs) : Calls Try.prog 107 #[pv, .int .i64 i] w (GetPost (celAt zs i) (decide (1 ≤ i ∧ i ≤ (zs.length : Int))) w) := by
  by_cases hi : 1 ≤ i ∧ i ≤ (zs.length : Int)
  · rw [show decide (1 ≤ i ∧ i ≤ (zs.length : Int)) = true by rw [decide_eq_true_eq]; exact hi]
    rcases h with ⟨rfl, _, _, rfl⟩ | ⟨b, rfl, h⟩
    · simp at hi; omega
    · have := arget_yes b o room zs (i.toNat - 1) w h (by omega)
      rw [show (((i.toNat - 1 : Nat)) : Int) + 1 = i by omega] at this
      unfold celAt
      rw [if_pos hi.1]
      exact this
  · rw [show decide (1 ≤ i ∧ i ≤ (zs.length : Int)) = false by rw [decide_eq_false_iff_not]; exact hi]
    have e : celAt zs i = Cel.zero := by
      unfold celAt
      split
      · rw [List.getD_eq_getElem?_getD, List.getElem?_eq_none (by omega)]; rfl
      · rfl
    rw [e]
    exact arget_no i w h (by omega)
/-- The blocks of an arena. -/
def ArF (b : Nat) (o : Option Nat) (g : Nat) : Prop := g = b ∨ o = some g
/-- What becomes of an arena: its cells lie where they lay, or in a new block; other blocks are as they were. -/
def ArPost (b : Nat) (o : Option Nat) (room : Nat) (zs : List Cel) (v : Value) (w : World) (e : Ending) (w' : World) : Prop :=
  e = .returned v ∧ ∃ o', ArAt w' b o' room zs ∧ (o' = o ∨ ∃ g, o' = some g ∧ w.heap.size ≤ g) ∧ Fr (ArF b o) w w'
theorem ArAt.store {w : World} {b : Nat} {o : Option Nat} {room : Nat} {zs' : List Cel} {v' : Value} (h : ∃ v, w.heap[b]? = some (.cells #[.int .i64 (room : Int), v] 100)) (hown : OwnCel 0 w v' zs') (ho : v'.ownBlock = o) (h1 : room ≤ 65536) (h2 : zs'.length ≤ room) (h3 : ∀ x ∈ zs', x.ok) (h4 : Bk zs') :
    ArAt (w.setCell ⟨b, 1, none⟩ v') b o room zs' := by
  obtain ⟨v, hb⟩ := h
  have hne := own_ne hown hb neAr
  refine ⟨h1, h2, h3, h4, v', by simp [World.setCell, Array.getElem?_modify, hb], ?_, ho⟩
  exact hown.kept (row := some b) ⟨rfl, rfl, rfl, by simp [World.setCell], fun k _ hk => Below.heap_setCell _ _ _ _ (fun e => hk (by simp [e]))⟩ (.inr hne)
theorem Fr.setCell {F : Nat → Prop} {w w' : World} (h : Fr F w w') {b : Nat} (hb : F b) (j : Nat) (v : Value) : Fr F w (w'.setCell ⟨b, j, none⟩ v) :=
  ⟨h.1, h.2.1, h.2.2.1, by simpa [World.setCell] using h.size, fun g hg hn => (Below.heap_setCell _ _ _ _ (fun e => hn (by rw [e]; exact hb))).trans (h.block hg hn)⟩
set_option maxHeartbeats 1000000 in
theorem arcut_yes (b : Nat) (o : Option Nat) (room : Nat) (zs : List Cel) (n : Nat) (w : World) (h : ArAt w b o room zs) (hn : n ≤ zs.length) : Calls Try.prog 103 #[.pointer (some ⟨b, 0, none⟩), .int .i64 (n : Int)] w (ArPost b o room (zs.take n) (.bool true) w) := by
  obtain ⟨p, c, ⟨h0, h1⟩, ⟨f0, f1⟩, hown, ho, hb⟩ := h.open_
  have hlc : zs.length ≤ c := by
    rcases hown.2 with ⟨hv, hz⟩ | ⟨g, cap, cur, hv, _, _, hh, _⟩
    · omega
    · injection hv with e1 e2 e3
      omega
  have hcut := hown.cut hn
  have hs : ∀ wx, (Instr.sliceAt 98 (.slice p zs.length c) none (some (.int .i64 (n : Int))) none).run Try.prog wx = .ok (.slice p n c) wx := fun wx => by
    rw [run_sliceAt_slice _ _ _ _ _ _ (by kernel_rfl), run_slice_h wx _ _ _ _ (by kernel_rfl) _ _ (by omega) (by omega), show Try.prog.elem 98 = 110 by kernel_rfl, show (sizeOf 110).run Try.prog wx = .ok 6 wx by kernel_rfl]
    simp only [Result.andThen, sliced]
    congr 1
    cases p with
    | none => simp
    | some a => simp [Addr.add]
  have HP : Hid (ArPost b o room (zs.take n) (.bool true) w (.returned (.bool true)) (w.setCell ⟨b, 1, none⟩ (.slice p n c))) := Lib.hid
    ⟨rfl, o, ArAt.store ⟨_, hb⟩ hcut (by rw [← ho]; cases p <;> rfl) h.1 (by rw [List.length_take]; have := h.2.1; omega) (fun x hx => h.2.2.1 x (List.mem_of_mem_take hx)) (h.2.2.2.1.take n), .inl rfl, (Fr.refl _ _).setCell (.inl rfl) 1 _⟩
  have hll := h.2.1
  have hrr := h.1
  clear h hown ho hb hcut
  generalize ArPost b o room (zs.take n) (.bool true) w = Post at HP ⊢
  go_enter Try.func103, Try.ntmps103
  go_wp2
  exact HP.out
theorem arcut_no (b : Nat) (o : Option Nat) (room : Nat) (zs : List Cel) (n : Int) (w : World) (h : ArAt w b o room zs) (hn : n < 0 ∨ (zs.length : Int) < n) : Calls Try.prog 103 #[.pointer (some ⟨b, 0, none⟩), .int .i64 n] w fun e w' => e = .returned (.bool false) ∧ w = w' := by
  obtain ⟨p, c, ⟨h0, h1⟩, _⟩ := h.open_
  clear h
  by_cases h1 : n < 0
  · clear hn
    go_enter Try.func103, Try.ntmps103
    go_wp2
    go_ret
    exact ⟨rfl, rfl⟩
  · have h2 : (zs.length : Int) < n := by omega
    have h3 : 0 ≤ n := by omega
    clear hn h1
    go_enter Try.func103, Try.ntmps103
    go_wp2
    go_ret
    exact ⟨rfl, rfl⟩
theorem arcut_nil (n : Int) (w : World) : Calls Try.prog 103 #[.pointer none, .int .i64 n] w (BoolSame (n == 0) w) := by
  go_enter Try.func103, Try.ntmps103
  go_wp2
  go_ret
  exact ⟨rfl, rfl⟩
end Go.Proofs.Ytpmimngngehmlaa.F
