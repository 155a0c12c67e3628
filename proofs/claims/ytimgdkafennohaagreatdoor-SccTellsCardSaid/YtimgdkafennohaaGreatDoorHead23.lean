/-
  Contracts of small functions, several texts laid into one. Not a statement of the seat.
-/
import Derived.Test.YtimgdkafennohaaGreatDoorScF3
import Derived.Test.YtimgdkafennohaaGreatDoorHead22
import Derived.Test.YtimgdkafennohaaGreatDoorSc10
import Derived.Test.YtimgdkafennohaaGreatDoorLstSame
import Derived.Deep.RegionHeld3
namespace Go.Proofs.YtimgdkafennohaaGreatDoor.Sc
open Go.ChangeShapes Go.WideShapes Go.ChangeAt Go.RowKit Base F Bits Gr Rf
def cntL (lab : Nat → Nat) (i : Nat) : Nat := ((List.range i).filter fun j => lab j == j).length
theorem cntL_succ (lab : Nat → Nat) (i : Nat) : cntL lab (i + 1) = if lab i = i then cntL lab i + 1 else cntL lab i := by
  unfold cntL
  rw [List.range_succ, List.filter_append]
  by_cases h : lab i = i <;> simp [h]
theorem cntL_all (n : Nat) (lab : Nat → Nat) : cntL lab n = (partsR n lab).length := by
  unfold cntL partsR
  rw [List.length_map]
theorem cntL_le (lab : Nat → Nat) : ∀ i, cntL lab i ≤ i
  | 0 => by simp [cntL]
  | i + 1 => by
    rw [cntL_succ]
    have := cntL_le lab i
    split <;> omega
theorem parts_at {n i : Nat} {lab : Nat → Nat} (hi : i < n) (h : lab i = i) : (partsR n lab)[cntL lab i]? = some (memR n lab i) := by
  unfold partsR cntL
  obtain ⟨r, rfl⟩ : ∃ r, n = i + 1 + r := ⟨n - (i + 1), by omega⟩
  have e : List.range (i + 1 + r) = List.range i ++ i :: (List.range r).map (fun x => i + 1 + x) := by
    rw [List.range_add, List.range_succ, List.append_assoc]
    rfl
  rw [List.getElem?_map]
  have e2 : ((List.range (i + 1 + r)).filter fun j => lab j == j)[((List.range i).filter fun j => lab j == j).length]? = some i := by
    rw [e, List.filter_append, List.getElem?_append_right (Nat.le_refl _), Nat.sub_self, List.filter_cons, if_pos (by simpa using h)]
    rfl
  rw [e2]
  rfl
/-- One that is there already is put where it stands. -/
theorem goA_same {n : Nat} (hn : n ≤ 4096) {a : Arc} : ∀ {q : List Arc}, GoodA n q → a ∈ q → goA a false q = q
  | [], _, h => by cases h
  | x :: l, hq, h => by
    have hx : rightO n x := hq.1 x List.mem_cons_self
    have ha : rightO n a := hq.1 a h
    have hql : GoodA n l := ⟨fun y hy => hq.1 y (List.mem_cons_of_mem _ hy), by have := hq.2; rw [List.map_cons, List.pairwise_cons] at this; exact this.2⟩
    have hlt : ∀ y ∈ l, numA x < numA y := fun y hy => by
      have := hq.2
      rw [List.map_cons, List.pairwise_cons] at this
      exact this.1 _ (List.mem_map.2 ⟨y, hy, rfl⟩)
    by_cases e : x = a
    · subst e
      have hno : x ∉ l := fun hm => by have := hlt x hm; omega
      rw [goA, less_num hn hx hx]
      have hb : Arc.beq x x = true := (Arc.beq_iff x x).2 rfl
      rw [hb, decide_eq_false (by omega)]
      simp only [Bool.false_or, Bool.not_false, if_true, Bool.false_eq_true, if_false, List.nil_append]
      rw [goA_true hno]
      rfl
    · have hm : a ∈ l := (List.mem_cons.1 h).resolve_left (Ne.symm e)
      have hb : Arc.beq x a = false := by
        cases hb : Arc.beq x a with
        | false => rfl
        | true => exact absurd ((Arc.beq_iff x a).1 hb) e
      rw [goA, hb, less_num hn hx ha, decide_eq_true (hlt a hm)]
      simp only [Bool.false_or, Bool.not_true, if_true, Bool.false_eq_true, if_false, List.nil_append]
      rw [goA_same hn hql hm]
      rfl
theorem addL_good {n : Nat} (hn : n ≤ 4096) {q : List Arc} (hq : GoodA n q) (a : Arc) : GoodA n (addL n q a) := by
  unfold addL
  split
  · rename_i h
    exact put_good hn hq h.1 h.2
  · exact hq
theorem madeA_good {n : Nat} (hn : n ≤ 4096) : ∀ (l : List Arc) {q : List Arc}, GoodA n q → GoodA n (l.foldl (addL n) q)
  | [], _, h => h
  | a :: l, _, h => madeA_good hn l (addL_good hn h a)
theorem addL_put {n : Nat} (hn : n ≤ 4096) {q : List Arc} (hq : GoodA n q) {a : Arc} (ha : rightO n a) : goA a false q = addL n q a := by
  unfold addL
  by_cases h : a ∈ q
  · rw [if_neg (fun hh => hh.2 h), goA_same hn hq h]
  · rw [if_pos ⟨ha, h⟩]
theorem addL_not {n : Nat} {q : List Arc} {a : Arc} (ha : ¬ rightO n a) : addL n q a = q := by
  unfold addL
  rw [if_neg (fun hh => ha hh.1)]
/-- The document's arcs, on their way. -/
def QA (w2 : World) (v : Value) (q : List Arc) (wr : World) : Prop := Below w2.heap.size w2 wr ∧ OwnArc w2.heap.size wr v q
theorem QA.below {w2 wr w' : World} {v : Value} {q : List Arc} (h : QA w2 v q wr) (hb : Below wr.heap.size wr w') : QA w2 v q w' := ⟨hbt h.1 hb, h.2.below hb⟩
theorem QA.new {w2 wr w' : World} {v u : Value} {q q' : List Arc} (h : QA w2 v q wr) (hr : RA wr w' u q') : QA w2 u q' w' := ⟨hbt h.1 hr.1, ownA_less hr.2 h.1.size⟩
theorem QA.arcs {w2 wr : World} {v : Value} {q : List Arc} (h : QA w2 v q wr) (hl : q.length ≤ 1000) : Arcs 0 wr v q := (OwnArc.list h.2 (by omega)).mono (Nat.zero_le _)
end Go.Proofs.YtimgdkafennohaaGreatDoor.Sc
namespace Go.Proofs.YtimgdkafennohaaGreatDoor.Sc
open Go.ChangeShapes Go.WideShapes Go.ChangeAt Go.RowKit Base F Bits Gr
def arcs3 : List Arc := [⟨0, 1, 1, 0⟩, ⟨1, 0, 2, 0⟩, ⟨1, 2, 1, 0⟩]
def q3 : List Arc := madeA 3 arcs3
theorem comps_any {n : Nat} {w : World} {B b : Nat} {q : List Arc} {nbs : Bool → Nat} (h : GQ w B b n q nbs) (hn : n ≤ 4096) (mask : Int) : Calls Tryz.prog 15 #[.pointer (some ⟨b, 0, none⟩), .int .i64 mask] w (ListsNew ((partsR n (labR (ofA q mask))).map natI) w) :=
  comps_gen hn mask (labR_ok (ofA_ends h.1 mask).1 n) (labels_any h hn mask)
theorem round_any {n : Nat} {w : World} {B b : Nat} {q : List Arc} {nbs : Bool → Nat} (h : GQ w B b n q nbs) (hn : n ≤ 4096) (mask : Int) (hT : TabW w) : Calls Tryz.prog 13 #[.pointer (some ⟨b, 0, none⟩), .int .i64 mask] w (NumN w (natI (roundR (ofA q mask) n))) :=
  round_gen hn mask (ofA_ends h.1 mask).1 (ofA_ends h.1 mask).2.1 hT (fun _ hX => nodes_q (h.below hX)) (fun _ hX => comps_any (h.below hX) hn mask) (fun _ v hX => self_any (h.below hX) hn mask v)
theorem q3_facts : labI 3 (ofA q3 14) = [0, 0, 2] ∧ labI 3 (ofA q3 2) = [0, 1, 2] ∧ natI (roundR (ofA q3 14) 3) = [0, 1] ∧ natI (roundR (ofA q3 2) 3) = [] ∧ (partsR 3 (labR (ofA q3 14))).map natI = [[0, 1], [2]] := by
  refine ⟨?_, ?_, ?_, ?_, ?_⟩ <;> decide +kernel
theorem lit3 (w : World) : Arcs w.heap.size (w.alloc (.cells #[.int .i64 0, .int .i64 1, .int .i64 1, .int .i64 0, .int .i64 1, .int .i64 0, .int .i64 2, .int .i64 0, .int .i64 1, .int .i64 2, .int .i64 1, .int .i64 0] 28)) (.slice (some ⟨w.heap.size, 0, none⟩) 3 3) arcs3 := by
  refine .inr ⟨w.heap.size, 0, 3, rfl, Nat.le_refl _, by simp, by decide, fun k hk => ?_⟩
  have h3 : k = 0 ∨ k = 1 ∨ k = 2 := by have : arcs3.length = 3 := rfl; omega
  have hx := heap_alloc_at w (.cells #[.int .i64 0, .int .i64 1, .int .i64 1, .int .i64 0, .int .i64 1, .int .i64 0, .int .i64 2, .int .i64 0, .int .i64 1, .int .i64 2, .int .i64 1, .int .i64 0] 28) w.heap.size rfl
  generalize w.alloc (.cells #[.int .i64 0, .int .i64 1, .int .i64 1, .int .i64 0, .int .i64 1, .int .i64 0, .int .i64 2, .int .i64 0, .int .i64 1, .int .i64 2, .int .i64 1, .int .i64 0] 28) = X at hx ⊢
  rcases h3 with rfl | rfl | rfl <;> simp [World.cell?, hx, arcs3]
def TruW (w : World) (e : Ending) (w' : World) : Prop := e = .returned (.bool true) ∧ Below w.heap.size w w'
/-- A list that a call told, behind other calls. -/
theorem own_len {B : Nat} {w : World} {v : Value} {zs : List Int} (h : Lst.OwnI B w v zs) (hl : zs.length ≤ 1000) : ∃ p c, v = .slice p zs.length c := by
  obtain ⟨p, c, hv, _⟩ := (h.ints (by omega)).open_
  exact ⟨p, c, hv⟩
set_option maxRecDepth 100000 in
set_option maxHeartbeats 8000000 in
theorem lives_any (w : World) (hT : TabW w) : Calls Tryz.prog 4 #[] w (TruW w) := by
  obtain ⟨w1, hw1⟩ : ∃ w1, w1 = w.alloc (.cells #[.int .i64 0, .int .i64 1, .int .i64 1, .int .i64 0, .int .i64 1, .int .i64 0, .int .i64 2, .int .i64 0, .int .i64 1, .int .i64 2, .int .i64 1, .int .i64 0] 28) := ⟨_, rfl⟩
  have hb1 : Below w.heap.size w w1 := by rw [hw1]; exact (Below.refl _ _).alloc (Nat.le_refl _) _
  have hl1 : Arcs 0 w1 (.slice (some ⟨w.heap.size, 0, none⟩) 3 3) arcs3 := by rw [hw1]; exact (lit3 w).mono (Nat.zero_le _)
  have HM : Hid (Calls Tryz.prog 5 #[.int .i64 3, .slice (some ⟨w.heap.size, 0, none⟩) 3 3] w1 (MadeP w1 3 q3)) := Lib.hid (made_any 3 w1 hl1 (by decide))
  have HB1 := Lib.hid hb1
  have HT := Lib.hid hT
  clear hl1 hT hb1
  go_enter Tryz.func4, Tryz.ntmps4
  go_wp2_with fail
  rw [← hw1]
  clear hw1
  refine HM.out.mono ?_
  rintro e w2 ⟨b, nbs, rfl, hq, _, hb2⟩
  have HB2 := Lib.hid (hbt HB1.out hb2)
  have HC := Lib.hid (comps_any hq (by omega) 14)
  rw [q3_facts.2.2.2.2] at HC
  have HQ := Lib.hid hq
  clear hq hb2 HM HB1
  go_wp2_with fail
  refine HC.out.mono ?_
  rintro e w3 ⟨lv, rfl, ⟨g, c, ts, cur, rfl, _, hgb, htl, hcur, hown⟩, hb3⟩
  have HB3 := Lib.hid (hbt HB2.out hb3)
  have hq3 := HQ.out.below hb3
  have HL14 : Hid (∀ Z, Below w3.heap.size w3 Z → Calls Tryz.prog 12 #[.pointer (some ⟨b, 0, none⟩), .int .i64 14] Z (NumN Z [0, 0, 2])) := Lib.hid fun Z hZ => by
    have h := labels_any (hq3.below hZ) (by omega) 14
    rw [q3_facts.1] at h
    exact h
  have HL2 : Hid (∀ Z, Below w3.heap.size w3 Z → Calls Tryz.prog 12 #[.pointer (some ⟨b, 0, none⟩), .int .i64 2] Z (NumN Z [0, 1, 2])) := Lib.hid fun Z hZ => by
    have h := labels_any (hq3.below hZ) (by omega) 2
    rw [q3_facts.2.1] at h
    exact h
  have HR14 : Hid (∀ Z, Below w3.heap.size w3 Z → Calls Tryz.prog 13 #[.pointer (some ⟨b, 0, none⟩), .int .i64 14] Z (NumN Z [0, 1])) := Lib.hid fun Z hZ => by
    have h := round_any (hq3.below hZ) (by omega) 14 (HT.out.below (HB3.out.trans (hZ.mono HB3.out.size)))
    rw [q3_facts.2.2.1] at h
    exact h
  have HR2 : Hid (∀ Z, Below w3.heap.size w3 Z → Calls Tryz.prog 13 #[.pointer (some ⟨b, 0, none⟩), .int .i64 2] Z (NumN Z [])) := Lib.hid fun Z hZ => by
    have h := round_any (hq3.below hZ) (by omega) 2 (HT.out.below (HB3.out.trans (hZ.mono HB3.out.size)))
    rw [q3_facts.2.2.2.1] at h
    exact h
  have htl2 : ts.length = 2 := htl
  have HP : Hid (∀ j, j < 2 → ∃ p' c', (∀ Z, Below w3.heap.size w3 Z → Z.cell? ⟨g, j, none⟩ = some (.slice p' (if j = 0 then 2 else 1) c') ∧ Lst.Ints 0 Z (.slice p' (if j = 0 then 2 else 1) c') (if j = 0 then [0, 1] else [2]))) := Lib.hid fun j hj => by
    have ho := hown j (by omega)
    have hz : ([[0, 1], [2]] : List (List Int)).getD j [] = if j = 0 then [0, 1] else [2] := by
      have : j = 0 ∨ j = 1 := by omega
      rcases this with rfl | rfl <;> rfl
    rw [hz] at ho
    have hn : (ts.getD j default).n = if j = 0 then 2 else 1 := by
      rw [own_n ho]
      split <;> rfl
    have hc1 : w3.cell? ⟨g, j, none⟩ = some (ts.getD j default).enc := by
      simp only [World.cell?, hgb]
      simpa using hcur j (by omega)
    unfold Tri.enc at hc1 ho
    rw [hn] at hc1 ho
    exact ⟨_, _, fun Z hZ => ⟨(hZ.cell (p := ⟨g, j, none⟩) (heap_lt hgb)).trans hc1, (ho.ints (by split <;> simp)).below hZ⟩⟩
  have HZ0 : Hid (Below w3.heap.size w3 w3) := Lib.hid (Below.refl _ _)
  clear hgb htl hcur hown hb3 hq3 htl2 HQ HC HB2
  obtain ⟨p0, c0, hp0⟩ := HP.out 0 (by omega)
  obtain ⟨p1, c1, hp1⟩ := HP.out 1 (by omega)
  simp only [if_true] at hp0
  simp only [show ¬ ((1 : Nat) = 0) by omega, if_false] at hp1
  have HP0 := Lib.hid hp0
  have HP1 := Lib.hid hp1
  clear hp0 hp1 HP
  go_wp2_with fail
  refine (HL14.out _ HZ0.out).mono ?_
  rintro e z1a ⟨v1, rfl, ho, hb⟩
  have HO1 := Lib.hid (ho.ints (by simp))
  have HZ1a := Lib.hid (hbt HZ0.out hb)
  clear ho hb
  go_wp2_with fail
  refine (Lst.sameInts_yes (HO1.out.below ((Below.refl _ _).alloc (Nat.le_refl _) _)) (Lst.lit_ints [0, 0, 2] z1a _ (#[.int .i64 0, .int .i64 0, .int .i64 2]) rfl (by decide) _ rfl)).mono ?_
  rintro e z1b ⟨rfl, k1, rfl⟩
  obtain ⟨z1b, hy1⟩ : ∃ Y, Y = World.drewN (z1a.alloc (.cells #[.int .i64 0, .int .i64 0, .int .i64 2] 3)) k1 := ⟨_, rfl⟩
  have HZ1 : Hid (Below w3.heap.size w3 z1b) := Lib.hid (by rw [hy1]; exact hbt HZ1a.out (below_drewN ((Below.refl _ _).alloc (Nat.le_refl _) _) k1))
  rw [← hy1]
  clear hy1 HO1
  go_wp2_with fail
  refine (HL2.out _ HZ1.out).mono ?_
  rintro e z2a ⟨v2, rfl, ho, hb⟩
  have HO2 := Lib.hid (ho.ints (by simp))
  have HZ2a := Lib.hid (hbt HZ1.out hb)
  clear ho hb
  go_wp2_with fail
  refine (Lst.sameInts_yes (HO2.out.below ((Below.refl _ _).alloc (Nat.le_refl _) _)) (Lst.lit_ints [0, 1, 2] z2a _ (#[.int .i64 0, .int .i64 1, .int .i64 2]) rfl (by decide) _ rfl)).mono ?_
  rintro e z2b ⟨rfl, k2, rfl⟩
  obtain ⟨z2b, hy2⟩ : ∃ Y, Y = World.drewN (z2a.alloc (.cells #[.int .i64 0, .int .i64 1, .int .i64 2] 3)) k2 := ⟨_, rfl⟩
  have HZ2 : Hid (Below w3.heap.size w3 z2b) := Lib.hid (by rw [hy2]; exact hbt HZ2a.out (below_drewN ((Below.refl _ _).alloc (Nat.le_refl _) _) k2))
  rw [← hy2]
  clear hy2 HO2
  go_wp2_with fail
  refine (HR14.out _ HZ2.out).mono ?_
  rintro e z3a ⟨v3, rfl, ho, hb⟩
  have HO3 := Lib.hid (ho.ints (by simp))
  have HZ3a := Lib.hid (hbt HZ2.out hb)
  clear ho hb
  go_wp2_with fail
  refine (Lst.sameInts_yes (HO3.out.below ((Below.refl _ _).alloc (Nat.le_refl _) _)) (Lst.lit_ints [0, 1] z3a _ (#[.int .i64 0, .int .i64 1]) rfl (by decide) _ rfl)).mono ?_
  rintro e z3b ⟨rfl, k3, rfl⟩
  obtain ⟨z3b, hy3⟩ : ∃ Y, Y = World.drewN (z3a.alloc (.cells #[.int .i64 0, .int .i64 1] 3)) k3 := ⟨_, rfl⟩
  have HZ3 : Hid (Below w3.heap.size w3 z3b) := Lib.hid (by rw [hy3]; exact hbt HZ3a.out (below_drewN ((Below.refl _ _).alloc (Nat.le_refl _) _) k3))
  rw [← hy3]
  clear hy3 HO3
  go_wp2_with fail
  refine (HR2.out _ HZ3.out).mono ?_
  rintro e z4a ⟨v4, rfl, ho, hb⟩
  have HO4 := Lib.hid (ho.ints (by simp))
  have HZ4a := Lib.hid (hbt HZ3.out hb)
  obtain ⟨p4v, c4v, hv⟩ := own_len ho (by simp)
  subst hv
  clear ho hb HO4
  have hx5 := (HP0.out _ HZ4a.out).1
  have HI5 := Lib.hid (HP0.out _ HZ4a.out).2
  go_wp2_with fail
  refine (Lst.sameInts_yes (HI5.out.below ((Below.refl _ _).alloc (Nat.le_refl _) _)) (Lst.lit_ints [0, 1] z4a _ (#[.int .i64 0, .int .i64 1]) rfl (by decide) _ rfl)).mono ?_
  rintro e z5b ⟨rfl, k5, rfl⟩
  obtain ⟨z5b, hy5⟩ : ∃ Y, Y = World.drewN (z4a.alloc (.cells #[.int .i64 0, .int .i64 1] 3)) k5 := ⟨_, rfl⟩
  have HZ5 : Hid (Below w3.heap.size w3 z5b) := Lib.hid (by rw [hy5]; exact hbt HZ4a.out (below_drewN ((Below.refl _ _).alloc (Nat.le_refl _) _) k5))
  rw [← hy5]
  clear hy5 HI5 hx5
  have hx6 := (HP1.out _ HZ5.out).1
  have HI6 := Lib.hid (HP1.out _ HZ5.out).2
  go_wp2_with fail
  refine (Lst.sameInts_yes (HI6.out.below ((Below.refl _ _).alloc (Nat.le_refl _) _)) (Lst.lit_ints [2] z5b _ (#[.int .i64 2]) rfl (by decide) _ rfl)).mono ?_
  rintro e z6b ⟨rfl, k6, rfl⟩
  obtain ⟨z6b, hy6⟩ : ∃ Y, Y = World.drewN (z5b.alloc (.cells #[.int .i64 2] 3)) k6 := ⟨_, rfl⟩
  have HZ6 : Hid (Below w3.heap.size w3 z6b) := Lib.hid (by rw [hy6]; exact hbt HZ5.out (below_drewN ((Below.refl _ _).alloc (Nat.le_refl _) _) k6))
  rw [← hy6]
  clear hy6 HI6 hx6
  go_wp2_with fail
  refine (labels_nil 14 _).mono ?_
  rintro e zz ⟨vv, rfl, ho, hb⟩
  have HZZ := Lib.hid (hbt HB3.out (hbt HZ6.out hb))
  obtain ⟨pv, cv, hv⟩ := own_len ho (by simp)
  subst hv
  clear ho hb
  go_wp2_with fail
  go_ret
  exact ⟨rfl, HZZ.out⟩
end Go.Proofs.YtimgdkafennohaaGreatDoor.Sc
namespace Go.Proofs.YtimgdkafennohaaGreatDoor.Sc
open Go.ChangeShapes Go.WideShapes Go.ChangeAt Go.RowKit Base F Bits Gr Rf
set_option maxRecDepth 100000 in
set_option maxHeartbeats 16000000 in
theorem tells_walk (n : Int) {v : Value} {l : List Arc} (mask : Int) (w : World) (h : Arcs 0 w v l) (hT : TabW w) : Calls Tryz.prog 3 #[.int .i64 n, v, .int .i64 mask] w (TruW w) := by
  have HLV : Hid (∀ W, Below w.heap.size w W → Calls Tryz.prog 4 #[] W (TruW W)) := Lib.hid fun W hW => lives_any W (hT.below hW)
  have HTW := Lib.hid hT
  obtain ⟨p, c, hv, _, hc⟩ := h.open_
  subst hv
  by_cases hg1 : 12 < n ∨ 60 < l.length
  · have hn0 : 12 < n ∨ (¬ 12 < n ∧ (60 : Int) < (l.length : Int)) := by omega
    have HL := Lib.hid (HLV.out w (Below.refl _ _))
    clear h hc hg1 HLV HTW hT
    rcases hn0 with h1 | ⟨h1, h2⟩
    all_goals (
      go_enter Tryz.func3, Tryz.ntmps3
      go_wp2_with fail
      refine HL.out.mono ?_
      rintro e w1 ⟨rfl, hb⟩
      have HB := Lib.hid hb
      clear hb HL
      go_wp2
      go_ret
      exact ⟨rfl, HB.out⟩)
  · obtain ⟨N, hN⟩ : ∃ N, N = roomL n := ⟨_, rfl⟩
    have hN12 : N ≤ 12 := by rw [hN]; unfold roomL; omega
    have hn12 : ¬ 12 < n := by omega
    have hl60 : l.length ≤ 60 := by omega
    obtain ⟨M, hM⟩ : ∃ M, M = l.length := ⟨_, rfl⟩
    rw [← hM] at hl60 hg1
    have hM2 : ¬ ((60 : Int) < (M : Int)) := by omega
    have HMD := Lib.hid (made_any n w h (by omega))
    have HRM := Lib.hid (fun X => room_any n X)
    rw [← hN] at HMD HRM
    have HC : Hid (∀ k, k < M → ∃ g o, p = some ⟨g, o, none⟩ ∧ ∃ x : Arc, l.take (k + 1) = l.take k ++ [x] ∧ g < w.heap.size ∧ (w.cell? ⟨g, o + k * 4, none⟩ = some (.int .i64 x.fr) ∧ w.cell? ⟨g, o + k * 4 + 1, none⟩ = some (.int .i64 x.to) ∧ w.cell? ⟨g, o + k * 4 + 2, none⟩ = some (.int .i64 x.kd) ∧ w.cell? ⟨g, o + k * 4 + 3, none⟩ = some (.int .i64 x.lb))) := Lib.hid fun k hk => by
      have hk2 : k < l.length := by omega
      obtain ⟨g, o, h1, _, h2, h3, h4, h5, h6⟩ := hc k hk2
      exact ⟨g, o, h1, _, by rw [List.take_succ_eq_append_getElem hk2]; simp [List.getD_eq_getElem?_getD, hk2], h2, h3, h4, h5, h6⟩
    have HLN : Hid (∀ k, (madeA N (l.take k)).length ≤ 60) := Lib.hid fun k => by
      have h1 := madeA_len N (l.take k) []
      rw [List.length_nil, List.length_take] at h1
      unfold madeA
      omega
    have HGD : Hid (∀ k, GoodA N (madeA N (l.take k))) := Lib.hid fun k => by
      unfold madeA
      exact madeA_good (by omega) _ ⟨(fun x hx => (by cases hx)), by simp⟩
    have HTE : Hid (l.take M = l) := Lib.hid (by rw [hM, List.take_length])
    rw [← hM] at HMD ⊢
    have hMI : (M : Int) ≤ 60 := by omega
    clear hc hN hM h hT hg1
    go_enter Tryz.func3, Tryz.ntmps3
    go_wp2_with fail
    refine HMD.out.mono ?_
    rintro e w2 ⟨b, nbs, rfl, hq, _, hb2⟩
    have HQ := Lib.hid hq
    have HB2 := Lib.hid hb2
    clear hq hb2 HMD
    go_wp2_with fail
    refine (HRM.out w2).mono ?_
    rintro e w3 ⟨rfl, rfl⟩
    have H0 : Hid (QA w2 (.slice none 0 0) (madeA N (l.take 0)) w2) := Lib.hid ⟨Below.refl _ _, OwnArc.nil _ _⟩
    clear HRM
    go_wp2_with fail
    go_loopw [9, 33] (fun s9 s33 wr => ∃ (k : Nat) (u : Value), s33 = .int .i64 (k : Int) ∧ u = s9 ∧ k ≤ M ∧ Hid (QA w2 u (madeA N (l.take k)) wr)) (fun _ s33 _ => M - (intOf s33).toNat)
    case atStart => exact ⟨0, _, rfl, rfl, Nat.zero_le _, H0⟩
    case round =>
      clear H0
      obtain ⟨k, u, rfl, rfl, hk, HA⟩ := hrel
      by_cases hlt : k < M
      · obtain ⟨g, o, rfl, x, htk, hg, c0, c1, c2, c3⟩ := HC.out k hlt
        have hkI : (k : Int) < (M : Int) := by omega
        have hbw := hbt HB2.out HA.out.1
        have c0 := (hbw.cell (p := ⟨g, _, none⟩) hg).trans c0
        have c1 := (hbw.cell (p := ⟨g, _, none⟩) hg).trans c1
        have c2 := (hbw.cell (p := ⟨g, _, none⟩) hg).trans c2
        have c3 := (hbw.cell (p := ⟨g, _, none⟩) hg).trans c3
        have hST : madeA N (l.take (k + 1)) = addL N (madeA N (l.take k)) x := by rw [htk, madeA_snoc]
        have HGK := Lib.hid (HGD.out k)
        obtain ⟨X, hX⟩ : ∃ X, X = wr.alloc (bxA x) := ⟨_, rfl⟩
        obtain ⟨gb, hgb⟩ : ∃ gb, gb = wr.heap.size := ⟨_, rfl⟩
        have hbX : Below wr.heap.size wr X := by rw [hX]; exact (Below.refl _ _).alloc (Nat.le_refl _) _
        have HXB : Hid (X.heap[gb]? = some (bxA x)) := Lib.hid (by rw [hX, hgb]; exact heap_alloc_at _ _ _ rfl)
        have HAX := Lib.hid (HA.out.below hbX)
        have HRI := Lib.hid (gright_any N x X)
        have HLK := Lib.hid (HLN.out k)
        have HSTH := Lib.hid hST
        obtain ⟨x0, x1, x2, x3⟩ := x
        unfold bxA at hX
        simp only at c0 c1 c2 c3 hX
        clear hbX hbw htk HA hST
        go_upto_region 11 with fail
        rw [← hX, ← hgb]
        clear hX hgb c0 c1 c2 c3 hg
        obtain ⟨d0, d1, d2, d3⟩ := cellsA HXB.out
        have hbl := heap_lt HXB.out
        by_cases hr : rightO N ⟨x0, x1, x2, x3⟩
        · rw [decide_eq_true hr] at HRI
          have HPU : Hid (∀ W, Below X.heap.size X W → Calls Tryz.prog 8 #[u, .agg #[.int .i64 x0, .int .i64 x1, .int .i64 x2, .int .i64 x3]] W (ArcsP (addL N (madeA N (l.take k)) ⟨x0, x1, x2, x3⟩) W)) := Lib.hid fun W hW => by
            have h := gput_any ⟨x0, x1, x2, x3⟩ W ((HAX.out.below hW).arcs (by have := HLK.out; omega)) (by have := HLK.out; omega)
            rw [addL_put (by omega) HGK.out hr] at h
            exact h
          rw [← HSTH.out] at HPU
          unfold vA at HRI
          clear hr
          go_wp2_with fail
          refine HRI.out.mono ?_
          rintro e w4 ⟨rfl, hb4⟩
          have HXB4 : Hid (w4.heap[gb]? = some (bxA ⟨x0, x1, x2, x3⟩)) := Lib.hid ((Below.block hb4 _ hbl).trans HXB.out)
          have HP4 := Lib.hid (HPU.out w4 hb4)
          have HA4 := Lib.hid (HAX.out.below hb4)
          clear hb4 HRI HXB HPU HAX d0 d1 d2 d3 hbl
          obtain ⟨d0, d1, d2, d3⟩ := cellsA HXB4.out
          have hbl := heap_lt HXB4.out
          go_wp2_with fail
          refine HP4.out.mono ?_
          rintro e w5 ⟨u2, rfl, hra⟩
          have HN := Lib.hid (HA4.out.new hra)
          clear hra HP4 HA4 d0 d1 d2 d3 hbl
          go_wp2_with fail
          go_roundw
          case rel => exact ⟨k + 1, u2, by go_num, rfl, by omega, HN⟩
          case measure => simp [intOf]; omega
        · rw [decide_eq_false hr] at HRI
          have HST2 : Hid (madeA N (l.take (k + 1)) = madeA N (l.take k)) := Lib.hid (by rw [HSTH.out, addL_not hr])
          unfold vA at HRI
          clear hr
          go_wp2_with fail
          refine HRI.out.mono ?_
          rintro e w4 ⟨rfl, hb4⟩
          have HN : Hid (QA w2 u (madeA N (l.take (k + 1))) w4) := Lib.hid (by rw [HST2.out]; exact HAX.out.below hb4)
          clear hb4 HRI HAX d0 d1 d2 d3 hbl
          go_wp2_with fail
          go_roundw
          case rel => exact ⟨k + 1, u, by go_num, rfl, by omega, HN⟩
          case measure => simp [intOf]; omega
      · have hke : k = M := by omega
        subst hke
        have HTE2 : Hid (madeA N (l.take k) = madeA N l) := Lib.hid (by rw [HTE.out])
        have HA2 := Lib.hid (show QA w2 u (madeA N l) wr by have h := HA.out; rw [HTE2.out] at h; exact h)
        have HGA := Lib.hid (show GoodA N (madeA N l) by have h := HGD.out k; rw [HTE2.out] at h; exact h)
        have HLA := Lib.hid (show (madeA N l).length ≤ 60 by have h := HLN.out k; rw [HTE2.out] at h; exact h)
        obtain ⟨q, hq⟩ : ∃ q, q = madeA N l := ⟨_, rfl⟩
        rw [← hq] at HA2 HGA HLA HQ
        obtain ⟨L, hL⟩ : ∃ L, L = ofA q mask := ⟨_, rfl⟩
        have HLL : Hid (L.length ≤ 60) := Lib.hid (by rw [hL]; have := ofA_len q mask; have := HLA.out; omega)
        have hof := gof_any mask wr (HA2.out.arcs (by have := HLA.out; omega)) (by have := HLA.out; omega) (fun x hx => by have := HGA.out.1 x hx; unfold rightO at this; omega)
        rw [show (q.filter fun x => rbit mask x.kd) = L from hL.symm] at hof
        have HOF := Lib.hid hof
        obtain ⟨k0, k1, _, _⟩ := ofA_ends HGA.out mask
        rw [← hL] at k0 k1
        have HK0 := Lib.hid k0
        have HGQ : Hid (∀ Z, Below w2.heap.size w2 Z → GQ Z w.heap.size b N q nbs) := Lib.hid fun Z hZ => HQ.out.below hZ
        have hN4 : N ≤ 4096 := by omega
        have HLAB : Hid (∀ Z, Below w2.heap.size w2 Z → Calls Tryz.prog 12 #[.pointer (some ⟨b, 0, none⟩), .int .i64 mask] Z (NumN Z (natI ((List.range N).map (labR L))))) := Lib.hid fun Z hZ => by rw [hL]; exact labels_any (HGQ.out Z hZ) hN4 mask
        have HRND : Hid (∀ Z, Below w2.heap.size w2 Z → Calls Tryz.prog 13 #[.pointer (some ⟨b, 0, none⟩), .int .i64 mask] Z (NumN Z (natI (roundR L N)))) := Lib.hid fun Z hZ => by rw [hL]; exact round_any (HGQ.out Z hZ) hN4 mask (HTW.out.below (hbt HB2.out hZ))
        have HCMP : Hid (∀ Z, Below w2.heap.size w2 Z → Calls Tryz.prog 15 #[.pointer (some ⟨b, 0, none⟩), .int .i64 mask] Z (ListsNew ((partsR N (labR L)).map natI) Z)) := Lib.hid fun Z hZ => by rw [hL]; exact comps_any (HGQ.out Z hZ) hN4 mask
        have HB22 := Lib.hid HA2.out.1
        have HLI : Hid (∀ i, labR L i ≤ i ∧ labR L (labR L i) = labR L i) := Lib.hid fun i => ⟨(labR_is k0 i).2, lab_lab k0 i⟩
        clear hof k0 k1 hq hL HA HA2 HGD HLN HTE HTE2 HC HQ HGQ HGA hlt hk
        go_wp2_with fail
        refine HOF.out.mono ?_
        rintro e w4 ⟨u4, rfl, hra4⟩
        have HQ4 : Hid (QA wr u4 L w4) := Lib.hid ⟨hra4.1, hra4.2⟩
        have HW4 := Lib.hid (hbt HB22.out hra4.1)
        have HA4 := Lib.hid (HQ4.out.arcs (by have := HLL.out; omega))
        have HRL := Lib.hid (rlabels_any N w4 HA4.out HLL.out hN12)
        clear hra4 HOF HB22
        go_wp2_with fail
        refine HRL.out.mono ?_
        rintro e w5 ⟨u5, rfl, ho5, hb5⟩
        have HW5 := Lib.hid (hbt HW4.out hb5)
        have HA5 := Lib.hid (HA4.out.below hb5)
        have HLV5 := Lib.hid (ho5.ints (by simp [natI]; omega))
        have HL5 := Lib.hid (HLAB.out w5 HW5.out)
        obtain ⟨p5, c5, hv5, _⟩ := HLV5.out.open_
        rw [show (natI ((List.range N).map (labR L))).length = N by simp [natI]] at hv5
        subst hv5
        clear ho5 hb5 HRL HA4
        go_wp2_with fail
        refine HL5.out.mono ?_
        rintro e w6 ⟨u6, rfl, ho6, hb6⟩
        have HW6 := Lib.hid (hbt HW5.out hb6)
        have HLV6 := Lib.hid (HLV5.out.below hb6)
        have HA6 := Lib.hid (HA5.out.below hb6)
        have HSM := Lib.hid (Lst.sameInts_yes (ho6.ints (by simp [natI]; omega)) HLV6.out)
        clear ho6 hb6 HL5 HA5 HLV5
        go_wp2_with fail
        refine HSM.out.mono ?_
        rintro e w7 ⟨rfl, q7, rfl⟩
        obtain ⟨W7, hW7⟩ : ∃ W7, W7 = w6.drewN q7 := ⟨_, rfl⟩
        have hb7 : Below w6.heap.size w6 W7 := by rw [hW7]; exact below_drewN (Below.refl _ _) q7
        rw [← hW7]
        have HW7 := Lib.hid (hbt HW6.out hb7)
        have HLV7 := Lib.hid (HLV6.out.below hb7)
        have HA7 := Lib.hid (HA6.out.below hb7)
        have HR7 := Lib.hid (HRND.out W7 HW7.out)
        clear hW7 hb7 HSM HLV6 HA6 HW6
        go_wp2_with fail
        refine HR7.out.mono ?_
        rintro e w8 ⟨u8, rfl, ho8, hb8⟩
        have HW8 := Lib.hid (hbt HW7.out hb8)
        have HLV8 := Lib.hid (HLV7.out.below hb8)
        have HA8 := Lib.hid (HA7.out.below hb8)
        have HRR := Lib.hid (rround_any N w8 HA8.out HLL.out hN12)
        have hrl : (natI (roundR L N)).length ≤ 12 := by rw [natI_len]; unfold roundR; exact Nat.le_trans (List.length_filter_le _ _) (by simp; omega)
        have HO8 := Lib.hid (ho8.ints (by omega))
        clear ho8 hb8 HR7 HLV7 HA7
        go_wp2_with fail
        refine HRR.out.mono ?_
        rintro e w9 ⟨u9, rfl, ho9, hb9⟩
        have HW9 := Lib.hid (hbt HW8.out hb9)
        have HLV9 := Lib.hid (HLV8.out.below hb9)
        have HSM2 := Lib.hid (Lst.sameInts_yes (HO8.out.below hb9) (ho9.ints (by omega)))
        clear ho9 hb9 HRR HLV8 HA8 HO8
        go_wp2_with fail
        refine HSM2.out.mono ?_
        rintro e w10 ⟨rfl, q10, rfl⟩
        obtain ⟨W10, hW10⟩ : ∃ W10, W10 = w9.drewN q10 := ⟨_, rfl⟩
        have hb10 : Below w9.heap.size w9 W10 := by rw [hW10]; exact below_drewN (Below.refl _ _) q10
        rw [← hW10]
        have HW10 := Lib.hid (hbt HW9.out hb10)
        have HLV10 := Lib.hid (HLV9.out.below hb10)
        have HC10 := Lib.hid (HCMP.out W10 HW10.out)
        clear hW10 hb10 HSM2 HLV9 HW9
        go_wp2_with fail
        refine HC10.out.mono ?_
        rintro e w11 ⟨u11, rfl, ⟨g, c11, ts, cur, rfl, _, hgb, htl, hcur, hown⟩, hb11⟩
        have HW11 := Lib.hid (hbt HW10.out hb11)
        have HLV11 := Lib.hid (HLV10.out.below hb11)
        obtain ⟨K, hK⟩ : ∃ K, K = (partsR N (labR L)).length := ⟨_, rfl⟩
        rw [List.length_map, ← hK]
        rw [List.length_map, ← hK] at htl
        have hK12 : K ≤ 12 := by rw [hK, ← cntL_all]; have := cntL_le (labR L) N; omega
        have HKK : Hid (cntL (labR L) N = K) := Lib.hid (by rw [hK]; exact cntL_all N (labR L))
        have HP : Hid (∀ i, i < N → labR L i = i → cntL (labR L) i < K ∧ ∃ p' n' c', ∀ Z, Below w11.heap.size w11 Z → Z.cell? ⟨g, cntL (labR L) i, none⟩ = some (.slice p' n' c') ∧ Lst.Ints 0 Z (.slice p' n' c') (natI (memR N (labR L) i))) := Lib.hid fun i hi hlab => by
          have hpa := parts_at hi hlab
          have hlt : cntL (labR L) i < (partsR N (labR L)).length := (List.getElem?_eq_some_iff.1 hpa).1
          have ho := hown (cntL (labR L) i) (by omega)
          have e1 : ((partsR N (labR L)).map natI).getD (cntL (labR L) i) [] = natI (memR N (labR L) i) := by
            rw [List.getD_eq_getElem?_getD, List.getElem?_map, hpa]
            rfl
          rw [e1] at ho
          have hc1 : w11.cell? ⟨g, cntL (labR L) i, none⟩ = some (ts.getD (cntL (labR L) i) default).enc := by
            simp only [World.cell?, hgb]
            simpa using hcur (cntL (labR L) i) (by omega)
          have hlen : (natI (memR N (labR L) i)).length ≤ 12 := by rw [natI_len]; unfold memR; exact Nat.le_trans (List.length_filter_le _ _) (by simp; omega)
          unfold Tri.enc at hc1 ho
          exact ⟨by omega, _, _, _, fun Z hZ => ⟨(hZ.cell (p := ⟨g, cntL (labR L) i, none⟩) (heap_lt hgb)).trans hc1, (ho.ints (by omega)).below hZ⟩⟩
        have HLC : Hid (∀ i, i < N → ∃ g o, p5 = some ⟨g, o, none⟩ ∧ ∀ Z, Below w11.heap.size w11 Z → Z.cell? ⟨g, o + i, none⟩ = some (.int .i64 ((labR L i : Nat) : Int))) := Lib.hid fun i hi => by
          obtain ⟨p', c', hv', _, hc'⟩ := HLV11.out.open_
          have hll : (natI ((List.range N).map (labR L))).length = N := by simp [natI]
          rw [hll] at hv' hc'
          obtain ⟨g', o', h1, _, h2, h3⟩ := hc' i hi
          injection hv' with hv1 _ _
          refine ⟨g', o', hv1.trans h1, fun Z hZ => ((hZ.cell (p := ⟨g', o' + i, none⟩) h2).trans h3).trans ?_⟩
          simp [natI, List.getD_eq_getElem?_getD, hi]
        have HMB : Hid (∀ Z i, Below w11.heap.size w11 Z → Calls Tryz.prog 16 #[.slice p5 N c5, .int .i64 ((i : Nat) : Int)] Z (NumN Z (natI (memR N (labR L) i)))) := Lib.hid fun Z i hZ => rmembers_any i Z (HLV11.out.below hZ) hN12
        have HML : Hid (∀ i, (natI (memR N (labR L) i)).length ≤ 12) := Lib.hid fun i => by rw [natI_len]; unfold memR; exact Nat.le_trans (List.length_filter_le _ _) (by simp; omega)
        have hNi : (N : Int) ≤ 12 := by omega
        clear hgb htl hcur hown hb11 HC10 hK HLV10 HLV11 hrl
        go_wp2_with fail
        go_loopw [14, 15] (fun s14 s15 wr => ∃ i : Nat, s14 = .int .i64 ((cntL (labR L) i : Nat) : Int) ∧ s15 = .int .i64 (i : Int) ∧ i ≤ N ∧ Hid (Below w11.heap.size w11 wr)) (fun _ s15 _ => N - (intOf s15).toNat)
        case atStart => exact ⟨0, rfl, rfl, Nat.zero_le _, Lib.hid (Below.refl _ _)⟩
        case round =>
          obtain ⟨i, rfl, rfl, hi, HZ⟩ := hrel
          by_cases hlt : i < N
          · have hii : (i : Int) < (N : Int) := by omega
            obtain ⟨g5, o5, hp5, hc5⟩ := HLC.out i hlt
            have hc5 := hc5 wr HZ.out
            have hle := (HLI.out i).1
            have HCS := Lib.hid (cntL_succ (labR L) i)
            by_cases hlab : labR L i = i
            · obtain ⟨hck, p', n', c', hpc⟩ := HP.out i hlt hlab
              have HCS2 : Hid (cntL (labR L) (i + 1) = cntL (labR L) i + 1) := Lib.hid (by rw [HCS.out, if_pos hlab])
              rw [hlab] at hc5
              have HPC := Lib.hid hpc
              have HM1 := Lib.hid (HMB.out wr.drew i (by exact below_drewN HZ.out 1))
              obtain ⟨kk, hkk⟩ : ∃ kk, kk = cntL (labR L) i := ⟨_, rfl⟩
              rw [← hkk] at hck HPC HCS2 ⊢
              have hkK : ¬ ((K : Int) ≤ (kk : Int)) := by omega
              have hkK2 : (kk : Int) < (K : Int) := by omega
              subst hp5
              clear hlab hpc HCS hkk hle
              go_upto_region 24 with fail
              have HZD : Hid (Below w11.heap.size w11 wr.drew) := Lib.hid (below_drewN HZ.out 1)
              refine wp_region_held_drew (S := fun X => X.cell? ⟨g, kk, none⟩ = some (.slice p' n' c')) (by kernel_rfl) (HPC.out _ HZD.out).1 (fun hHeld0 => ?_)
              refine wpAnyH_take (i := 0) (v := ?_) rfl (by kernel_rfl) (by kernel_rfl) (by kernel_rfl) (fun _ _ _ h => h) (Or.inl ⟨by rfl, ?ysc0⟩) (by assumption) ?qsc0
              case ysc0 => (intro wz hSw; (try dsimp only at hSw); go_simp <;> with_reducible rfl)
              try simp only [Act.put, List.getElem_toArray, List.getElem_cons_zero, List.setIfInBounds_toArray, List.set_cons_zero, List.set_cons_succ]
              refine wpAnyH_take (i := 1) (v := ?_) rfl (by kernel_rfl) (by kernel_rfl) (by kernel_rfl) (fun _ _ _ h => h) (Or.inl ⟨by rfl, ?ysc1⟩) (by assumption) ?qsc1
              case ysc1 => (intro wz hSw; (try dsimp only at hSw); go_simp <;> with_reducible rfl)
              try simp only [Act.put, List.getElem_toArray, List.getElem_cons_zero, List.getElem_cons_succ, List.setIfInBounds_toArray, List.set_cons_zero, List.set_cons_succ]
              refine wpAnyH_take (i := 2) (v := ?_) rfl (by kernel_rfl) (by kernel_rfl) (by kernel_rfl) (fun _ _ _ h => h) (Or.inl ⟨by rfl, ?ysc2⟩) (by assumption) ?qsc2
              case ysc2 => (intro wz hSw; (try dsimp only at hSw); go_simp <;> with_reducible rfl)
              try simp only [Act.put, List.getElem_toArray, List.getElem_cons_zero, List.getElem_cons_succ, List.setIfInBounds_toArray, List.set_cons_zero, List.set_cons_succ]
              refine wpAnyH_take (i := 3) (v := ?_) rfl (by kernel_rfl) (by kernel_rfl) (by kernel_rfl) (fun _ _ _ h => h) (Or.inl ⟨by rfl, ?ysc3⟩) (by assumption) ?qsc3
              case ysc3 => (intro wz hSw; (try dsimp only at hSw); go_simp <;> with_reducible rfl)
              try simp only [Act.put, List.getElem_toArray, List.getElem_cons_zero, List.getElem_cons_succ, List.setIfInBounds_toArray, List.set_cons_zero, List.set_cons_succ]
              refine wpAnyH_take (i := 4) (v := ?_) rfl (by kernel_rfl) (by kernel_rfl) (by kernel_rfl) (fun _ _ _ h => h) (Or.inl ⟨by rfl, ?ysc4⟩) (by assumption) ?qsc4
              case ysc4 => (intro wz hSw; (try dsimp only at hSw); go_simp <;> with_reducible rfl)
              try simp only [Act.put, List.getElem_toArray, List.getElem_cons_zero, List.getElem_cons_succ, List.setIfInBounds_toArray, List.set_cons_zero, List.set_cons_succ]
              refine wpAnyH_take (i := 5) (v := ?_) rfl (by kernel_rfl) (by kernel_rfl) (by kernel_rfl) (fun _ _ _ h => h) (Or.inl ⟨by rfl, ?ysc5⟩) (by assumption) ?qsc5
              case ysc5 => (intro wz hSw; (try dsimp only at hSw); go_simp <;> with_reducible rfl)
              try simp only [Act.put, List.getElem_toArray, List.getElem_cons_zero, List.getElem_cons_succ, List.setIfInBounds_toArray, List.set_cons_zero, List.set_cons_succ]
              refine wpAnyH_take (i := 6) (v := ?_) rfl (by kernel_rfl) (by kernel_rfl) (by kernel_rfl) (fun _ _ _ h => h) (Or.inl ⟨by rfl, ?ysc6⟩) (by assumption) ?qsc6
              case ysc6 => (intro wz hSw; (try dsimp only at hSw); go_simp <;> with_reducible rfl)
              try simp only [Act.put, List.getElem_toArray, List.getElem_cons_zero, List.getElem_cons_succ, List.setIfInBounds_toArray, List.set_cons_zero, List.set_cons_succ]
              refine wpAnyH_take (i := 7) (v := ?_) rfl (by kernel_rfl) (by kernel_rfl) (by kernel_rfl) (fun _ _ _ h => h) (Or.inl ⟨by rfl, ?ysc7⟩) (by assumption) ?qsc7
              case ysc7 => (intro wz hSw; (try dsimp only at hSw); go_simp <;> with_reducible rfl)
              try simp only [Act.put, List.getElem_toArray, List.getElem_cons_zero, List.getElem_cons_succ, List.setIfInBounds_toArray, List.set_cons_zero, List.set_cons_succ]
              refine wpAnyH_take (i := 8) (v := ?_) rfl (by kernel_rfl) (by kernel_rfl) (by kernel_rfl) (fun _ _ _ h => h) (Or.inl ⟨by rfl, ?ysc8⟩) (by assumption) ?qsc8
              case ysc8 => (intro wz hSw; (try dsimp only at hSw); go_simp <;> with_reducible rfl)
              try simp only [Act.put, List.getElem_toArray, List.getElem_cons_zero, List.getElem_cons_succ, List.setIfInBounds_toArray, List.set_cons_zero, List.set_cons_succ]
              refine wpAnyH_take (i := 9) (v := ?_) rfl (by kernel_rfl) (by kernel_rfl) (by kernel_rfl) (fun _ _ _ h => h) (Or.inl ⟨by rfl, ?ysc9⟩) (by assumption) ?qsc9
              case ysc9 => (intro wz hSw; (try dsimp only at hSw); go_simp <;> with_reducible rfl)
              try simp only [Act.put, List.getElem_toArray, List.getElem_cons_zero, List.getElem_cons_succ, List.setIfInBounds_toArray, List.set_cons_zero, List.set_cons_succ]
              refine wpAnyH_take (i := 10) (v := ?_) rfl (by kernel_rfl) (by kernel_rfl) (by kernel_rfl) (fun _ _ _ h => h) (Or.inl ⟨by rfl, ?ysc10⟩) (by assumption) ?qsc10
              case ysc10 => (intro wz hSw; (try dsimp only at hSw); go_simp <;> with_reducible rfl)
              try simp only [Act.put, List.getElem_toArray, List.getElem_cons_zero, List.getElem_cons_succ, List.setIfInBounds_toArray, List.set_cons_zero, List.set_cons_succ]
              refine wpAnyH_ready (rs := [11]) (by kernel_rfl) (by simp) ?_
              refine AllReadyH.cons rfl (fun K hK => ?_) AllReadyH.nil
              go_simp
              refine HM1.out.mono ?_
              rintro e y1 ⟨vM, rfl, hoM, hbM⟩
              have HY1 : Hid (Below w11.heap.size w11 y1) := Lib.hid (hbt HZD.out hbM)
              have HSM3 := Lib.hid (Lst.sameInts_yes (HPC.out y1 HY1.out).2 (hoM.ints (by have := HML.out i; omega)))
              clear hoM hbM HM1
              refine hK.out _ _ ((HPC.out _ HY1.out).1) (fun hHeldsc11 => ?_)
              clear hK K
              try simp only [Act.put, List.getElem_toArray, List.getElem_cons_zero, List.getElem_cons_succ, List.setIfInBounds_toArray, List.set_cons_zero, List.set_cons_succ]
              refine wpAnyH_ready (rs := [12]) (by kernel_rfl) (by simp) ?_
              refine AllReadyH.cons rfl (fun K hK => ?_) AllReadyH.nil
              go_simp
              refine HSM3.out.mono ?_
              rintro e y2 ⟨rfl, q12, rfl⟩
              have HY2 : Hid (Below w11.heap.size w11 (World.drewN y1 q12)) := Lib.hid (below_drewN HY1.out q12)
              clear HSM3
              refine hK.out _ _ ((HPC.out _ HY2.out).1) (fun hHeldsc12 => ?_)
              clear hK K
              try simp only [Act.put, List.getElem_toArray, List.getElem_cons_zero, List.getElem_cons_succ, List.setIfInBounds_toArray, List.set_cons_zero, List.set_cons_succ]
              refine wpAnyH_take (i := 13) (v := ?_) rfl (by kernel_rfl) (by kernel_rfl) (by kernel_rfl) (fun _ _ _ h => h) (Or.inl ⟨by rfl, ?ysc13⟩) (by assumption) ?qsc13
              case ysc13 => (intro wz hSw; (try dsimp only at hSw); go_simp <;> with_reducible rfl)
              try simp only [Act.put, List.getElem_toArray, List.getElem_cons_zero, List.getElem_cons_succ, List.setIfInBounds_toArray, List.set_cons_zero, List.set_cons_succ]
              refine wpAnyH_take (i := 14) (v := ?_) rfl (by kernel_rfl) (by kernel_rfl) (by kernel_rfl) (fun _ _ _ h => h) (Or.inl ⟨by rfl, ?ysc14⟩) (by assumption) ?qsc14
              case ysc14 => (intro wz hSw; (try dsimp only at hSw); go_simp <;> with_reducible rfl)
              try simp only [Act.put, List.getElem_toArray, List.getElem_cons_zero, List.getElem_cons_succ, List.setIfInBounds_toArray, List.set_cons_zero, List.set_cons_succ]
              refine wpAnyH_done (by kernel_rfl) ?_ _
              clear HPC
              go_wp2_with fail
              go_roundw
              case rel => exact ⟨i + 1, by rw [HCS2.out]; go_num, by go_num, by omega, HY2⟩
              case measure => simp [intOf]; omega
            · have HCS2 : Hid (cntL (labR L) (i + 1) = cntL (labR L) i) := Lib.hid (by rw [HCS.out, if_neg hlab])
              have hne : (((labR L i : Nat) : Int) == (i : Int)) = false := by rw [beq_eq_false_iff_ne]; omega
              have hne2 : (((labR L i : Nat) : Int) != (i : Int)) = true := by rw [bne_iff_ne]; omega
              generalize labR L i = x at hc5 hne hne2
              subst hp5
              clear hlab HCS hle
              go_wp2_with fail
              go_roundw
              case rel => exact ⟨i + 1, by rw [HCS2.out], by go_num, by omega, HZ⟩
              case measure => simp [intOf]; omega
          · have e : i = N := by omega
            subst e
            have HLF := Lib.hid (HLV.out wr (hbt HB2.out (hbt HW11.out HZ.out)))
            have HWF := Lib.hid (hbt HB2.out (hbt HW11.out HZ.out))
            have hkk := HKK.out
            rw [hkk]
            clear hkk HZ HP HLC HMB
            go_wp2_with fail
            refine HLF.out.mono ?_
            rintro e wz ⟨rfl, hb⟩
            have HFIN := Lib.hid (hbt HWF.out hb)
            clear hb HLF HWF
            go_wp2
            go_ret
            exact ⟨rfl, HFIN.out⟩
end Go.Proofs.YtimgdkafennohaaGreatDoor.Sc
