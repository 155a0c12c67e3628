/-
  Contracts of small functions, several texts laid into one. Not a statement of the seat.
-/
import Derived.Test.YtimgdkafennohaaDoorSc10
import Derived.Test.YtimgdkafennohaaDoorHead23
import Derived.Test.YtimgdkafennohaaDoorLstSame
import Derived.Test.YtimgdkafennohaaDoorHead6
namespace Go.Proofs.YtimgdkafennohaaDoor.Sc
open Go.ChangeShapes Go.WideShapes Go.ChangeAt Go.RowKit Base F Bits Gr
def arcs3 : List Arc := [⟨0, 1, 1, 0⟩, ⟨1, 0, 2, 0⟩, ⟨1, 2, 1, 0⟩]
def q3 : List Arc := madeA 3 arcs3
theorem comps_any {n : Nat} {w : World} {B b : Nat} {q : List Arc} {nbs : Bool → Nat} (h : GQ w B b n q nbs) (hn : n ≤ 4096) (mask : Int) : Calls Tryd.prog 11 #[.pointer (some ⟨b, 0, none⟩), .int .i64 mask] w (ListsNew ((partsR n (labR (ofA q mask))).map natI) w) :=
  comps_gen hn mask (labR_ok (ofA_ends h.1 mask).1 n) (labels_any h hn mask)
theorem round_any {n : Nat} {w : World} {B b : Nat} {q : List Arc} {nbs : Bool → Nat} (h : GQ w B b n q nbs) (hn : n ≤ 4096) (mask : Int) (hT : TabW w) : Calls Tryd.prog 13 #[.pointer (some ⟨b, 0, none⟩), .int .i64 mask] w (NumN w (natI (roundR (ofA q mask) n))) :=
  round_gen hn mask (ofA_ends h.1 mask).1 (ofA_ends h.1 mask).2.1 hT (fun _ hX => nodes_q (h.below hX)) (fun _ hX => comps_any (h.below hX) hn mask) (fun _ v hX => self_any (h.below hX) hn mask v)
theorem q3_facts : labI 3 (ofA q3 14) = [0, 0, 2] ∧ labI 3 (ofA q3 2) = [0, 1, 2] ∧ natI (roundR (ofA q3 14) 3) = [0, 1] ∧ natI (roundR (ofA q3 2) 3) = [] ∧ (partsR 3 (labR (ofA q3 14))).map natI = [[0, 1], [2]] := by
  refine ⟨?_, ?_, ?_, ?_, ?_⟩ <;> decide +kernel
theorem lit3 (w : World) : Arcs w.heap.size (w.alloc (.cells #[.int .i64 0, .int .i64 1, .int .i64 1, .int .i64 0, .int .i64 1, .int .i64 0, .int .i64 2, .int .i64 0, .int .i64 1, .int .i64 2, .int .i64 1, .int .i64 0] 24)) (.slice (some ⟨w.heap.size, 0, none⟩) 3 3) arcs3 := by
  refine .inr ⟨w.heap.size, 0, 3, rfl, Nat.le_refl _, by simp, by decide, fun k hk => ?_⟩
  have h3 : k = 0 ∨ k = 1 ∨ k = 2 := by have : arcs3.length = 3 := rfl; omega
  have hx := heap_alloc_at w (.cells #[.int .i64 0, .int .i64 1, .int .i64 1, .int .i64 0, .int .i64 1, .int .i64 0, .int .i64 2, .int .i64 0, .int .i64 1, .int .i64 2, .int .i64 1, .int .i64 0] 24) w.heap.size rfl
  generalize w.alloc (.cells #[.int .i64 0, .int .i64 1, .int .i64 1, .int .i64 0, .int .i64 1, .int .i64 0, .int .i64 2, .int .i64 0, .int .i64 1, .int .i64 2, .int .i64 1, .int .i64 0] 24) = X at hx ⊢
  rcases h3 with rfl | rfl | rfl <;> simp [World.cell?, hx, arcs3]
def TruW (w : World) (e : Ending) (w' : World) : Prop := e = .returned (.bool true) ∧ Below w.heap.size w w'
/-- A list that a call told, behind other calls. -/
theorem own_len {B : Nat} {w : World} {v : Value} {zs : List Int} (h : Lst.OwnI B w v zs) (hl : zs.length ≤ 1000) : ∃ p c, v = .slice p zs.length c := by
  obtain ⟨p, c, hv, _⟩ := (h.ints (by omega)).open_
  exact ⟨p, c, hv⟩
set_option maxRecDepth 100000 in
set_option maxHeartbeats 8000000 in
theorem lives_any (w : World) (hT : TabW w) : Calls Tryd.prog 4 #[] w (TruW w) := by
  obtain ⟨w1, hw1⟩ : ∃ w1, w1 = w.alloc (.cells #[.int .i64 0, .int .i64 1, .int .i64 1, .int .i64 0, .int .i64 1, .int .i64 0, .int .i64 2, .int .i64 0, .int .i64 1, .int .i64 2, .int .i64 1, .int .i64 0] 24) := ⟨_, rfl⟩
  have hb1 : Below w.heap.size w w1 := by rw [hw1]; exact (Below.refl _ _).alloc (Nat.le_refl _) _
  have hl1 : Arcs 0 w1 (.slice (some ⟨w.heap.size, 0, none⟩) 3 3) arcs3 := by rw [hw1]; exact (lit3 w).mono (Nat.zero_le _)
  have HM : Hid (Calls Tryd.prog 5 #[.int .i64 3, .slice (some ⟨w.heap.size, 0, none⟩) 3 3] w1 (MadeP w1 3 q3)) := Lib.hid (made_any 3 w1 hl1 (by decide))
  have HB1 := Lib.hid hb1
  have HT := Lib.hid hT
  clear hl1 hT hb1
  go_enter Tryd.func4, Tryd.ntmps4
  go_wp2_with fail
  rw [← hw1]
  clear hw1
  refine HM.out.mono ?_
  rintro e w2 ⟨b, nbs, rfl, hq, _, hb2⟩
  have HB2 := Lib.hid (hbt HB1.out hb2)
  have HC := Lib.hid (comps_any hq (by omega) 14)
  rw [q3_facts.2.2.2.2] at HC
  have HQ := Lib.hid hq
  clear hq hb2 HM HB1
  go_wp2_with fail
  refine HC.out.mono ?_
  rintro e w3 ⟨lv, rfl, ⟨g, c, ts, cur, rfl, _, hgb, htl, hcur, hown⟩, hb3⟩
  have HB3 := Lib.hid (hbt HB2.out hb3)
  have hq3 := HQ.out.below hb3
  have HL14 : Hid (∀ Z, Below w3.heap.size w3 Z → Calls Tryd.prog 6 #[.pointer (some ⟨b, 0, none⟩), .int .i64 14] Z (NumN Z [0, 0, 2])) := Lib.hid fun Z hZ => by
    have h := labels_any (hq3.below hZ) (by omega) 14
    rw [q3_facts.1] at h
    exact h
  have HL2 : Hid (∀ Z, Below w3.heap.size w3 Z → Calls Tryd.prog 6 #[.pointer (some ⟨b, 0, none⟩), .int .i64 2] Z (NumN Z [0, 1, 2])) := Lib.hid fun Z hZ => by
    have h := labels_any (hq3.below hZ) (by omega) 2
    rw [q3_facts.2.1] at h
    exact h
  have HR14 : Hid (∀ Z, Below w3.heap.size w3 Z → Calls Tryd.prog 13 #[.pointer (some ⟨b, 0, none⟩), .int .i64 14] Z (NumN Z [0, 1])) := Lib.hid fun Z hZ => by
    have h := round_any (hq3.below hZ) (by omega) 14 (HT.out.below (HB3.out.trans (hZ.mono HB3.out.size)))
    rw [q3_facts.2.2.1] at h
    exact h
  have HR2 : Hid (∀ Z, Below w3.heap.size w3 Z → Calls Tryd.prog 13 #[.pointer (some ⟨b, 0, none⟩), .int .i64 2] Z (NumN Z [])) := Lib.hid fun Z hZ => by
    have h := round_any (hq3.below hZ) (by omega) 2 (HT.out.below (HB3.out.trans (hZ.mono HB3.out.size)))
    rw [q3_facts.2.2.2.1] at h
    exact h
  have htl2 : ts.length = 2 := htl
  have HP : Hid (∀ j, j < 2 → ∃ p' c', (∀ Z, Below w3.heap.size w3 Z → Z.cell? ⟨g, j, none⟩ = some (.slice p' (if j = 0 then 2 else 1) c') ∧ Lst.Ints 0 Z (.slice p' (if j = 0 then 2 else 1) c') (if j = 0 then [0, 1] else [2]))) := Lib.hid fun j hj => by
    have ho := hown j (by omega)
    have hz : ([[0, 1], [2]] : List (List Int)).getD j [] = if j = 0 then [0, 1] else [2] := by
      have : j = 0 ∨ j = 1 := by omega
      rcases this with rfl | rfl <;> rfl
    rw [hz] at ho
    have hn : (ts.getD j default).n = if j = 0 then 2 else 1 := by
      rw [own_n ho]
      split <;> rfl
    have hc1 : w3.cell? ⟨g, j, none⟩ = some (ts.getD j default).enc := by
      simp only [World.cell?, hgb]
      simpa using hcur j (by omega)
    unfold Tri.enc at hc1 ho
    rw [hn] at hc1 ho
    exact ⟨_, _, fun Z hZ => ⟨(hZ.cell (p := ⟨g, j, none⟩) (heap_lt hgb)).trans hc1, (ho.ints (by split <;> simp)).below hZ⟩⟩
  have HZ0 : Hid (Below w3.heap.size w3 w3) := Lib.hid (Below.refl _ _)
  clear hgb htl hcur hown hb3 hq3 htl2 HQ HC HB2
  obtain ⟨p0, c0, hp0⟩ := HP.out 0 (by omega)
  obtain ⟨p1, c1, hp1⟩ := HP.out 1 (by omega)
  simp only [if_true] at hp0
  simp only [show ¬ ((1 : Nat) = 0) by omega, if_false] at hp1
  have HP0 := Lib.hid hp0
  have HP1 := Lib.hid hp1
  clear hp0 hp1 HP
  go_wp2_with fail
  refine (HL14.out _ HZ0.out).mono ?_
  rintro e z1a ⟨v1, rfl, ho, hb⟩
  have HO1 := Lib.hid (ho.ints (by simp))
  have HZ1a := Lib.hid (hbt HZ0.out hb)
  clear ho hb
  go_wp2_with fail
  refine (Lst.sameInts_yes (HO1.out.below ((Below.refl _ _).alloc (Nat.le_refl _) _)) (Lst.lit_ints [0, 0, 2] z1a _ (#[.int .i64 0, .int .i64 0, .int .i64 2]) rfl (by decide) _ rfl)).mono ?_
  rintro e z1b ⟨rfl, k1, rfl⟩
  obtain ⟨z1b, hy1⟩ : ∃ Y, Y = World.drewN (z1a.alloc (.cells #[.int .i64 0, .int .i64 0, .int .i64 2] 3)) k1 := ⟨_, rfl⟩
  have HZ1 : Hid (Below w3.heap.size w3 z1b) := Lib.hid (by rw [hy1]; exact hbt HZ1a.out (below_drewN ((Below.refl _ _).alloc (Nat.le_refl _) _) k1))
  rw [← hy1]
  clear hy1 HO1
  go_wp2_with fail
  refine (HL2.out _ HZ1.out).mono ?_
  rintro e z2a ⟨v2, rfl, ho, hb⟩
  have HO2 := Lib.hid (ho.ints (by simp))
  have HZ2a := Lib.hid (hbt HZ1.out hb)
  clear ho hb
  go_wp2_with fail
  refine (Lst.sameInts_yes (HO2.out.below ((Below.refl _ _).alloc (Nat.le_refl _) _)) (Lst.lit_ints [0, 1, 2] z2a _ (#[.int .i64 0, .int .i64 1, .int .i64 2]) rfl (by decide) _ rfl)).mono ?_
  rintro e z2b ⟨rfl, k2, rfl⟩
  obtain ⟨z2b, hy2⟩ : ∃ Y, Y = World.drewN (z2a.alloc (.cells #[.int .i64 0, .int .i64 1, .int .i64 2] 3)) k2 := ⟨_, rfl⟩
  have HZ2 : Hid (Below w3.heap.size w3 z2b) := Lib.hid (by rw [hy2]; exact hbt HZ2a.out (below_drewN ((Below.refl _ _).alloc (Nat.le_refl _) _) k2))
  rw [← hy2]
  clear hy2 HO2
  go_wp2_with fail
  refine (HR14.out _ HZ2.out).mono ?_
  rintro e z3a ⟨v3, rfl, ho, hb⟩
  have HO3 := Lib.hid (ho.ints (by simp))
  have HZ3a := Lib.hid (hbt HZ2.out hb)
  clear ho hb
  go_wp2_with fail
  refine (Lst.sameInts_yes (HO3.out.below ((Below.refl _ _).alloc (Nat.le_refl _) _)) (Lst.lit_ints [0, 1] z3a _ (#[.int .i64 0, .int .i64 1]) rfl (by decide) _ rfl)).mono ?_
  rintro e z3b ⟨rfl, k3, rfl⟩
  obtain ⟨z3b, hy3⟩ : ∃ Y, Y = World.drewN (z3a.alloc (.cells #[.int .i64 0, .int .i64 1] 3)) k3 := ⟨_, rfl⟩
  have HZ3 : Hid (Below w3.heap.size w3 z3b) := Lib.hid (by rw [hy3]; exact hbt HZ3a.out (below_drewN ((Below.refl _ _).alloc (Nat.le_refl _) _) k3))
  rw [← hy3]
  clear hy3 HO3
  go_wp2_with fail
  refine (HR2.out _ HZ3.out).mono ?_
  rintro e z4a ⟨v4, rfl, ho, hb⟩
  have HO4 := Lib.hid (ho.ints (by simp))
  have HZ4a := Lib.hid (hbt HZ3.out hb)
  obtain ⟨p4v, c4v, hv⟩ := own_len ho (by simp)
  subst hv
  clear ho hb HO4
  have hx5 := (HP0.out _ HZ4a.out).1
  have HI5 := Lib.hid (HP0.out _ HZ4a.out).2
  go_wp2_with fail
  refine (Lst.sameInts_yes (HI5.out.below ((Below.refl _ _).alloc (Nat.le_refl _) _)) (Lst.lit_ints [0, 1] z4a _ (#[.int .i64 0, .int .i64 1]) rfl (by decide) _ rfl)).mono ?_
  rintro e z5b ⟨rfl, k5, rfl⟩
  obtain ⟨z5b, hy5⟩ : ∃ Y, Y = World.drewN (z4a.alloc (.cells #[.int .i64 0, .int .i64 1] 3)) k5 := ⟨_, rfl⟩
  have HZ5 : Hid (Below w3.heap.size w3 z5b) := Lib.hid (by rw [hy5]; exact hbt HZ4a.out (below_drewN ((Below.refl _ _).alloc (Nat.le_refl _) _) k5))
  rw [← hy5]
  clear hy5 HI5 hx5
  have hx6 := (HP1.out _ HZ5.out).1
  have HI6 := Lib.hid (HP1.out _ HZ5.out).2
  go_wp2_with fail
  refine (Lst.sameInts_yes (HI6.out.below ((Below.refl _ _).alloc (Nat.le_refl _) _)) (Lst.lit_ints [2] z5b _ (#[.int .i64 2]) rfl (by decide) _ rfl)).mono ?_
  rintro e z6b ⟨rfl, k6, rfl⟩
  obtain ⟨z6b, hy6⟩ : ∃ Y, Y = World.drewN (z5b.alloc (.cells #[.int .i64 2] 3)) k6 := ⟨_, rfl⟩
  have HZ6 : Hid (Below w3.heap.size w3 z6b) := Lib.hid (by rw [hy6]; exact hbt HZ5.out (below_drewN ((Below.refl _ _).alloc (Nat.le_refl _) _) k6))
  rw [← hy6]
  clear hy6 HI6 hx6
  go_wp2_with fail
  refine (labels_nil 14 _).mono ?_
  rintro e zz ⟨vv, rfl, ho, hb⟩
  have HZZ := Lib.hid (hbt HB3.out (hbt HZ6.out hb))
  obtain ⟨pv, cv, hv⟩ := own_len ho (by simp)
  subst hv
  clear ho hb
  go_wp2_with fail
  go_ret
  exact ⟨rfl, HZZ.out⟩
end Go.Proofs.YtimgdkafennohaaDoor.Sc
namespace Go.Proofs.YtimgdkafennohaaDoor.Sc
open Go.ChangeShapes Go.WideShapes Go.ChangeAt Go.RowKit Base F Bits Gr Rf
variable {n : Nat} {w : World}
theorem next_nat {B b : Nat} {q : List Arc} {nbs : Bool → Nat} (h : GQ w B b n q nbs) (hn : n ≤ 4096) (mask : Int) (v : Nat) : Calls Tryd.prog 8 #[.pointer (some ⟨b, 0, none⟩), .int .i64 (v : Nat), .int .i64 mask] w (NumN w (natI (nxA (ofA q mask) v))) := by
  have h1 := next_q h hn mask (v : Int)
  have e0 := (ofA_ends h.1 mask).1
  have hz : sideO (ofA q mask) (v : Int) false = natI (nxA (ofA q mask) v) := by
    unfold natI nxA
    rw [List.map_map]
    conv => lhs; rw [← List.map_id (sideO (ofA q mask) (v : Int) false)]
    refine List.map_congr_left fun z hz => ?_
    obtain ⟨x, hx, _, rfl⟩ := mem_next.1 hz
    have := e0 x hx
    simp
    omega
  rw [hz] at h1
  exact h1
/-- Those seen so far: a list of the call's own, each once, all of which P holds of; a box, and another list that stays. -/
structure SE (B : Nat) (wl : World) (gb : Nat) (bx : Arc) (gl : Option Nat) (w7 : World) (P : Nat → Prop) (zs : List Nat) (sv : Value) (w : World) : Prop where
  own : Lst.OwnI B w sv (natI zs)
  nodup : zs.Nodup
  all : ∀ z ∈ zs, P z
  below : Below B wl w
  size : B ≤ w.heap.size
  box : w.heap[gb]? = some (bxA bx)
  keep : ∀ g, gl = some g → w.heap[g]? = w7.heap[g]? ∧ g < w.heap.size ∧ sv.ownBlock ≠ some g
section
variable {B : Nat} {wl : World} {gb : Nat} {bx : Arc} {gl gl' : Option Nat} {w7 w' : World} {P : Nat → Prop} {zs : List Nat} {sv sv' : Value}
theorem SE.next (h : SE B wl gb bx gl w7 P zs sv w) (hb : Below w.heap.size w w') (hg : ∀ g, gl' = some g → w.heap.size ≤ g ∧ g < w'.heap.size) : SE B wl gb bx gl' w' P zs sv w' :=
  ⟨h.own.below hb, h.nodup, h.all, h.below.trans (hb.mono h.size), Nat.le_trans h.size hb.size, (hb.block _ (heap_lt h.box)).trans h.box, fun g e => ⟨rfl, (hg g e).2, fun e2 => by
    have := (World.ownsRow.lt h.own g e2).2
    have := (hg g e).1
    omega⟩⟩
theorem SE.app (h : SE B wl gb bx gl w7 P zs sv w) {z : Nat} {lit : Obj} (hz : z ∉ zs) (hP : P z) (ho : Lst.OwnI B w' sv' (natI zs ++ [(z : Int)])) (hg : (w.alloc lit).grownBy w' sv.ownBlock) (hat : sv'.ownBlock = sv.ownBlock ∨ sv'.ownBlock = some (w.alloc lit).heap.size) : SE B wl gb bx gl w7 P (zs ++ [z]) sv' w' := by
  have hb : Below w.heap.size w (w.alloc lit) := (Below.refl _ _).alloc (Nat.le_refl _) _
  have hblk : ∀ g, g < w.heap.size → sv.ownBlock ≠ some g → w'.heap[g]? = w.heap[g]? := fun g hg1 hn => (hg.block g (Nat.lt_of_lt_of_le hg1 hb.size) (fun e => hn e.symm)).trans (hb.block g hg1)
  have hsz : w.heap.size ≤ w'.heap.size := Nat.le_trans hb.size hg.size
  have e1 : natI (zs ++ [z]) = natI zs ++ [(z : Int)] := by simp [natI]
  refine ⟨by rw [e1]; exact ho, ?_, fun y hy => ?_, ?_, Nat.le_trans h.size hsz, ?_, fun g e => ?_⟩
  · rw [List.nodup_append]
    exact ⟨h.nodup, by simp, fun y hy y' hy' e => by rw [List.mem_singleton] at hy'; rw [e, hy'] at hy; exact hz hy⟩
  · rcases List.mem_append.1 hy with hy | hy
    · exact h.all y hy
    · rw [List.mem_singleton] at hy; rw [hy]; exact hP
  · exact ⟨hg.os.trans (hb.os.trans h.below.os), hg.tape.trans (hb.tape.trans h.below.tape), hg.output.trans (hb.output.trans h.below.output), Nat.le_trans h.below.size hsz, fun g hg1 => (hblk g (Nat.lt_of_lt_of_le hg1 h.size) (fun e => by have := Lst.own_base h.own g e; omega)).trans (h.below.block g hg1)⟩
  · refine (hblk gb (heap_lt h.box) (fun e => ?_)).trans h.box
    exact own_ne h.own (show w.heap[gb]? = some (.cells _ 24) from h.box) (by decide) e
  · obtain ⟨h1, h2, h3⟩ := h.keep g e
    refine ⟨(hblk g h2 h3).trans h1, Nat.lt_of_lt_of_le h2 hsz, fun e2 => ?_⟩
    rcases hat with h4 | h4
    · exact h3 (h4 ▸ e2)
    · rw [e2] at h4
      have h4 := Option.some.inj h4
      have := hb.size
      omega
theorem SE.len (h : SE B wl gb bx gl w7 P zs sv w) (hP : ∀ z, P z → z < n) : zs.length ≤ n := nodup_len n zs h.nodup (fun z hz => hP z (h.all z hz))
theorem SE.form (h : SE B wl gb bx gl w7 P zs sv w) (hl : zs.length ≤ 5000) : ∃ p c, sv = .slice p zs.length c ∧ ∀ j, j < zs.length → ∃ g o, p = some ⟨g, o, none⟩ ∧ w.cell? ⟨g, o + j, none⟩ = some (.int .i64 ((zs.getD j 0 : Nat) : Int)) := by
  obtain ⟨p, c, hv, _, hc⟩ := (h.own.ints (by rw [natI_len]; omega)).open_
  rw [natI_len] at hv hc
  refine ⟨p, c, hv, fun j hj => ?_⟩
  obtain ⟨g, o, h1, _, _, h2⟩ := hc j hj
  rw [natI_getD] at h2
  exact ⟨g, o, h1, h2⟩
theorem SE.in_ (h : SE B wl gb bx gl w7 P zs sv w) (hl : zs.length ≤ 5000) (z : Nat) : Calls Tryd.prog 9 #[sv, .int .i64 (z : Nat)] w fun e w' => e = .returned (.bool (decide (z ∈ zs))) ∧ w = w' := by
  have h1 := in_any (z : Int) w (h.own.ints (by rw [natI_len]; omega))
  have e : decide ((z : Int) ∈ natI zs) = decide (z ∈ zs) := by
    rw [decide_eq_decide]
    unfold natI
    rw [List.mem_map]
    constructor
    · rintro ⟨y, hy, e⟩
      have : y = z := by omega
      exact this ▸ hy
    · exact fun hz => ⟨z, hz, rfl⟩
  rw [e] at h1
  exact h1
end
end Go.Proofs.YtimgdkafennohaaDoor.Sc
namespace Go.Proofs.YtimgdkafennohaaDoor.Sc
open Go.ChangeShapes Go.WideShapes Go.ChangeAt Go.RowKit Base F Bits Gr Rf
theorem labI_getD (n : Nat) (l : List Arc) (j : Nat) (hj : j < n) : (labI n l).getD j 0 = ((labR l j : Nat) : Int) := by
  unfold labI
  rw [natI_getD]
  simp [List.getD_eq_getElem?_getD, hj]
theorem labI_len (n : Nat) (l : List Arc) : (labI n l).length = n := by simp [labI, natI]
/-- Labels that a call told, to be read in any later world. -/
theorem lab_open {B n : Nat} {w : World} {v : Value} {l : List Arc} (h : Lst.OwnI B w v (labI n l)) (hn : n ≤ 4096) : ∃ p c, v = .slice p n c ∧ ∀ j, j < n → ∃ g o, p = some ⟨g, o, none⟩ ∧ ∃ cs, w.heap[g]? = some (Obj.cells cs 3 (0, 0)) ∧ w.cell? ⟨g, o + j, none⟩ = some (.int .i64 ((labR l j : Nat) : Int)) := by
  rcases h.2 with ⟨hv, h0⟩ | ⟨g, cap, cur, hv, hB, hg, _⟩
  · rw [labI_len] at h0
    subst h0
    exact ⟨_, _, hv, fun j hj => absurd hj (Nat.not_lt_zero _)⟩
  · rw [labI_len] at hv
    refine ⟨_, _, hv, fun j hj => ⟨g, 0, rfl, cur, hg, ?_⟩⟩
    rcases h.ints (by rw [labI_len]; omega) with ⟨_, h1⟩ | ⟨g', o', c', h1, _, _, _, h2⟩
    · have := congrArg List.length h1
      rw [labI_len] at this
      simp at this
      omega
    · rw [hv] at h1
      injection h1 with h1 _ _
      injection h1 with h1
      injection h1 with h1 h3
      subst h1 h3
      rw [h2 j (by rw [labI_len]; exact hj), labI_getD n l j hj]
set_option maxRecDepth 100000 in
set_option maxHeartbeats 16000000 in
theorem way_walk (n : Int) {v : Value} {l : List Arc} (mask : Int) (more : Arc) (w : World) (h : Arcs 0 w v l) (hT : TabW w) : Calls Tryd.prog 3 #[.int .i64 n, v, .int .i64 mask, vA more] w (TruW w) := by
  obtain ⟨p, c, hv, _⟩ := h.open_
  subst hv
  obtain ⟨w0, hw0⟩ : ∃ w0, w0 = w.alloc (bxA more) := ⟨_, rfl⟩
  obtain ⟨gm, hgm⟩ : ∃ gm, gm = w.heap.size := ⟨_, rfl⟩
  have hb0 : Below w.heap.size w w0 := by rw [hw0]; exact (Below.refl _ _).alloc (Nat.le_refl _) _
  have HBX : Hid (w0.heap[gm]? = some (bxA more)) := Lib.hid (by rw [hw0, hgm]; exact heap_alloc_at _ _ _ rfl)
  have HL := Lib.hid (lives_any w0 (hT.below hb0))
  have HA := Lib.hid (h.below hb0)
  have HB0 := Lib.hid hb0
  clear h hT hb0
  obtain ⟨m0, m1, m2, m3⟩ := more
  unfold vA
  unfold bxA at hw0
  simp only at hw0 ⊢
  by_cases hg1 : n < 0 ∨ 40 < n ∨ 120 < l.length
  · have hn0 : n < 0 ∨ (¬ n < 0 ∧ 40 < n) ∨ (¬ n < 0 ∧ ¬ 40 < n ∧ (120 : Int) < (l.length : Int)) := by omega
    clear HA hg1
    rcases hn0 with h1 | ⟨h1, h2⟩ | ⟨h1, h2, h3⟩
    all_goals (
      go_enter Tryd.func3, Tryd.ntmps3
      go_wp2_with fail
      rw [← hw0]
      refine HL.out.mono ?_
      rintro e w1 ⟨rfl, hb⟩
      have HB := Lib.hid (hbt HB0.out hb)
      clear hb HL hw0
      go_wp2
      go_ret
      exact ⟨rfl, HB.out⟩)
  · obtain ⟨N, rfl⟩ := Int.eq_ofNat_of_zero_le (show 0 ≤ n by omega)
    have hN : N ≤ 40 := by omega
    have hNi : ¬ ((40 : Int) < (N : Int)) := by omega
    have hl1 : l.length ≤ 120 := by omega
    have hl2 : ¬ ((120 : Int) < (l.length : Int)) := by omega
    have HL1 := Lib.hid hl1
    clear hg1
    obtain ⟨lm, hlm⟩ : ∃ lm, lm = l.length := ⟨_, rfl⟩
    rw [← hlm] at hl2 hl1 HA ⊢
    clear hlm
    go_enter Tryd.func3, Tryd.ntmps3
    go_wp2_with fail
    rw [← hw0, ← hgm]
    clear hw0 hgm
    refine HL.out.mono ?_
    rintro e w1 ⟨rfl, hb1⟩
    have HB1 := Lib.hid (hbt HB0.out hb1)
    have hrN : roomL (N : Int) = N := by unfold roomL; omega
    have hm1 := made_any (N : Int) w1 (HA.out.below hb1) (by have := HL1.out; omega)
    rw [hrN] at hm1
    have HM := Lib.hid hm1
    have HQL : Hid ((madeA N l).length ≤ 120) := Lib.hid (by have h1 := madeA_len N l []; have h2 := HL1.out; rw [List.length_nil] at h1; unfold madeA; omega)
    have HBX1 : Hid (w1.heap[gm]? = some (bxA ⟨m0, m1, m2, m3⟩)) := Lib.hid ((hb1.block _ (heap_lt HBX.out)).trans HBX.out)
    generalize madeA N l = q at HM HQL
    clear hm1 hrN HL hb1 HA HL1 HBX HB0
    go_wp2_with fail
    refine HM.out.mono ?_
    rintro e w2 ⟨b, nbs, rfl, hq, hbn, hb2⟩
    have HB2 := Lib.hid (hbt HB1.out hb2)
    have HBX2 : Hid (w2.heap[gm]? = some (bxA ⟨m0, m1, m2, m3⟩)) := Lib.hid ((hb2.block _ (heap_lt HBX1.out)).trans HBX1.out)
    have HS12 := Lib.hid hb2.size
    have HQ := Lib.hid hq
    have HBN := Lib.hid hbn
    have HLAB := Lib.hid (labels_any hq (by omega) mask)
    obtain ⟨L, hLq⟩ : ∃ L, L = ofA q mask := ⟨_, rfl⟩
    rw [← hLq] at HLAB
    obtain ⟨e0, e1, e2, e3⟩ := ofA_ends hq.1 mask
    rw [← hLq] at e0 e1 e2 e3
    have HENDS := Lib.hid (And.intro e0 (And.intro e1 (And.intro e2 e3)))
    have HLE : Hid (∀ j, labR L j ≤ j ∧ labR L (labR L j) = labR L j) := Lib.hid fun j => ⟨(labR_is e0 j).2, lab_lab e0 j⟩
    clear hq hbn hb2 HM e0 e1 e2 e3 HBX1
    go_wp2_with fail
    refine HLAB.out.mono ?_
    rintro e w3 ⟨lv, rfl, hown, hb3⟩
    obtain ⟨p, c, hlv, hcell⟩ := lab_open hown (by omega)
    subst hlv
    have HB3 := Lib.hid (hbt HB2.out hb3)
    have HQ3 := Lib.hid (HQ.out.below hb3)
    have HBX3 : Hid (w3.heap[gm]? = some (bxA ⟨m0, m1, m2, m3⟩)) := Lib.hid ((hb3.block _ (heap_lt HBX2.out)).trans HBX2.out)
    have HS13 : Hid (w1.heap.size ≤ w3.heap.size) := Lib.hid (Nat.le_trans HS12.out hb3.size)
    have HC : Hid (∀ j, j < N → ∃ g o, p = some ⟨g, o, none⟩ ∧ ∃ cs, w3.heap[g]? = some (Obj.cells cs 3 (0, 0)) ∧ w3.cell? ⟨g, o + j, none⟩ = some (.int .i64 ((labR L j : Nat) : Int))) := Lib.hid hcell
    have HC3 : Hid (∀ j, j < N → ∃ g o, p = some ⟨g, o, none⟩ ∧ ∀ Z, Below w3.heap.size w3 Z → Z.cell? ⟨g, o + j, none⟩ = some (.int .i64 ((labR L j : Nat) : Int))) := Lib.hid fun j hj => by
      obtain ⟨g, o, h1, cs, h2, h3⟩ := hcell j hj
      exact ⟨g, o, h1, fun Z hZ => (hZ.cell (p := ⟨g, o + j, none⟩) (heap_lt h2)).trans h3⟩
    clear hown hcell hb3 HLAB HBX2 HQ HS12 HB2
    go_wp2_with fail
    go_loop [48] (fun s48 => ∃ j : Nat, s48 = .int .i64 (j : Int) ∧ j ≤ N) (fun s48 => N - (intOf s48).toNat)
    case atStart => exact ⟨0, rfl, Nat.zero_le _⟩
    case round =>
      obtain ⟨j, rfl, hj⟩ := hrel
      by_cases hlt : j < N
      · obtain ⟨g, o, rfl, hc⟩ := HC3.out j hlt
        have c1 := hc w3 (Below.refl _ _)
        obtain ⟨h1, h2⟩ := HLE.out j
        obtain ⟨x, hx⟩ : ∃ x, x = labR L j := ⟨_, rfl⟩
        rw [← hx] at c1 h1 h2
        obtain ⟨g', o', hp, hc'⟩ := HC3.out x (by omega)
        injection hp with hp
        injection hp with hp1 hp2
        subst hp1 hp2
        have c2 := hc' w3 (Below.refl _ _)
        rw [h2] at c2
        have hxi : ¬ ((j : Int) < (x : Int)) := by omega
        have hxN : (x : Int) < (N : Int) := by omega
        clear hc hc' h1 h2 hx
        go_wp2_with fail
        go_round
        case rel => exact ⟨j + 1, by go_num, by omega⟩
        case measure => simp [intOf]; omega
      · have e : j = N := by omega
        subst e
        have harc := arcs_q HQ3.out (by omega) mask
        rw [← hLq] at harc
        have HARC := Lib.hid harc
        have HNX : Hid (∀ Z (s : Nat), Below w3.heap.size w3 Z → Calls Tryd.prog 8 #[.pointer (some ⟨b, 0, none⟩), .int .i64 (s : Nat), .int .i64 mask] Z (NumN Z (natI (nxA L s)))) := Lib.hid fun Z s hZ => by rw [hLq]; exact next_nat (HQ3.out.below hZ) (by omega) mask s
        have HLL : Hid (L.length ≤ 120) := Lib.hid (by rw [hLq]; have := ofA_len q mask; have := HQL.out; omega)
        have HLQ := Lib.hid hLq
        clear harc hLq hlt
        go_wp2_with fail
        refine HARC.out.mono ?_
        rintro e w4 ⟨va, rfl, hoa, hb4⟩
        obtain ⟨pa, ca, hva, _, hca⟩ := (OwnArc.list hoa (by have := HLL.out; omega)).open_
        subst hva
        obtain ⟨K, hK⟩ : ∃ K, K = L.length := ⟨_, rfl⟩
        have hKi : K ≤ 120 := by have := HLL.out; omega
        rw [← hK] at hca ⊢
        have HKA : Hid (∀ k, k < K → ∃ g o, pa = some ⟨g, o, none⟩ ∧ ∃ f t kd lb : Int, (∀ Z, Below w4.heap.size w4 Z → Z.cell? ⟨g, o + k * 4, none⟩ = some (.int .i64 f) ∧ Z.cell? ⟨g, o + k * 4 + 1, none⟩ = some (.int .i64 t) ∧ Z.cell? ⟨g, o + k * 4 + 2, none⟩ = some (.int .i64 kd) ∧ Z.cell? ⟨g, o + k * 4 + 3, none⟩ = some (.int .i64 lb)) ∧ ∃ fn tn : Nat, f = (fn : Int) ∧ t = (tn : Int) ∧ fn < j ∧ tn < j ∧ Hop L (fn : Int) (tn : Int)) := Lib.hid fun k hk => by
          obtain ⟨g, o, e1, _, e2, e3, e4, e5, e6⟩ := hca k hk
          have hm := getD_in (xs := L) (k := k) (by omega)
          obtain ⟨d0, d1, d2, d3⟩ := HENDS.out
          refine ⟨g, o, e1, _, _, _, _, fun Z hZ => ⟨(hZ.cell (p := ⟨g, _, none⟩) e2).trans e3, (hZ.cell (p := ⟨g, _, none⟩) e2).trans e4, (hZ.cell (p := ⟨g, _, none⟩) e2).trans e5, (hZ.cell (p := ⟨g, _, none⟩) e2).trans e6⟩, ?_⟩
          have h0 := d0 _ hm
          have h1 := d1 _ hm
          have h2 := d2 _ hm
          have h3 := d3 _ hm
          refine ⟨(L.getD k Arc.zero).fr.toNat, (L.getD k Arc.zero).to.toNat, by omega, by omega, by omega, by omega, ⟨_, hm, by omega, by omega⟩⟩
        have HB4 := Lib.hid hb4
        have HW4 : Hid (Below w4.heap.size w4 w4) := Lib.hid (Below.refl _ _)
        have HTO3 : Hid (∀ Z, Below w4.heap.size w4 Z → Below w3.heap.size w3 Z) := Lib.hid fun Z hZ => hb4.trans (hZ.mono hb4.size)
        clear hoa hca hb4 hK HARC
        go_wp2_with fail
        go_loopw [73] (fun s73 wr => ∃ k : Nat, s73 = .int .i64 (k : Int) ∧ k ≤ K ∧ Hid (Below w4.heap.size w4 wr)) (fun s73 _ => K - (intOf s73).toNat)
        case atStart => exact ⟨0, rfl, Nat.zero_le _, HW4⟩
        case round =>
          obtain ⟨k, rfl, hk, HZ⟩ := hrel
          by_cases hlk : k < K
          · obtain ⟨g, o, rfl, f, t, kd, lb, hcs, fn, tn, rfl, rfl, hfn, htn, hop⟩ := HKA.out k hlk
            have hkI : (k : Int) < (K : Int) := by omega
            obtain ⟨c0, c1, c2, c3⟩ := hcs wr HZ.out
            obtain ⟨X, hX⟩ : ∃ X, X = wr.alloc (bxA ⟨(fn : Int), (tn : Int), kd, lb⟩) := ⟨_, rfl⟩
            have hbX : Below w4.heap.size w4 X := by rw [hX]; exact HZ.out.alloc HZ.out.size _
            obtain ⟨gb, hgb⟩ : ∃ gb, gb = wr.heap.size := ⟨_, rfl⟩
            have HXB : Hid (X.heap[gb]? = some (bxA ⟨(fn : Int), (tn : Int), kd, lb⟩)) := Lib.hid (by rw [hX, hgb]; exact heap_alloc_at _ _ _ rfl)
            have HGB : Hid (w4.heap.size ≤ gb) := Lib.hid (by rw [hgb]; exact HZ.out.size)
            have HBX := Lib.hid hbX
            have HOP := Lib.hid hop
            unfold bxA at hX
            simp only at hX
            clear hcs hbX hop HZ
            go_upto_region 20 with fail
            rw [← hX, ← hgb]
            clear hX hgb c0 c1 c2 c3
            obtain ⟨d0, d1, d2, d3⟩ := cellsA HXB.out
            have hbl := heap_lt HXB.out
            obtain ⟨g1, o1, hp1, k1⟩ := HC3.out fn hfn
            obtain ⟨g2, o2, hp2, k2⟩ := HC3.out tn htn
            subst hp1
            injection hp2 with hp2
            injection hp2 with hp3 hp4
            subst hp3 hp4
            have k1 := k1 X (HTO3.out X HBX.out)
            have k2 := k2 X (HTO3.out X HBX.out)
            have hfi : (fn : Int) < (j : Int) := by omega
            have hti : (tn : Int) < (j : Int) := by omega
            by_cases hlab : labR L fn = labR L tn
            · rw [hlab] at k1
              have HXD : Hid (∀ q, Below w4.heap.size w4 (X.drewN q)) := Lib.hid fun q => below_drewN HBX.out q
              generalize labR L tn = a at *
              clear hlab
              go_region
              all_goals (
                go_wp2_with fail
                go_roundw
                case rel => exact ⟨k + 1, by go_num, by omega, Lib.hid (HXD.out 1)⟩
                case measure => simp [intOf]; omega)
            · have hnb := no_back HENDS.out.1 HOP.out hlab
              obtain ⟨P, hP⟩ : ∃ P : Nat → Prop, P = fun z => Rch (nxA L) tn z ∧ z < j := ⟨_, rfl⟩
              have HPF : Hid (∀ z, P z → z ≠ fn ∧ z < j ∧ ∀ y ∈ nxA L z, P y ∧ y < j) := Lib.hid fun z hz => by
                rw [hP] at hz
                refine ⟨fun e => hnb (e ▸ hz.1), hz.2, fun y hy => ?_⟩
                have hyl := nxA_lt HENDS.out.2.1 HENDS.out.1 hy
                rw [hP]
                exact ⟨⟨hz.1.tail hy, hyl⟩, hyl⟩
              have HNXL : Hid (∀ z, (nxA L z).length ≤ 120) := Lib.hid fun z => by
                unfold nxA
                rw [List.length_map]
                have := sideO_len L (z : Int) false
                have := HLL.out
                omega
              have HSE0 : Hid (∃ zs gl w7, zs.length = 1 ∧ SE w4.heap.size w4 gb ⟨(fn : Int), (tn : Int), kd, lb⟩ gl w7 P zs (.slice (some ⟨X.heap.size, 0, none⟩) 1 1) (X.drew.alloc (.cells #[.int .i64 (tn : Int)] 3))) := Lib.hid ⟨[tn], none, w4, rfl, by
                have hbd : Below X.heap.size X (X.drew.alloc (.cells #[.int .i64 (tn : Int)] 3)) := (below_drewN (Below.refl _ _) 1).alloc (Nat.le_refl _) _
                exact ⟨Lst.ownI_one (tn : Int) HBX.out.size (heap_alloc_at _ _ _ rfl), by simp, fun z hz => by rw [List.mem_singleton] at hz; rw [hP, hz]; exact ⟨.refl, htn⟩, HBX.out.trans (hbd.mono HBX.out.size), Nat.le_trans HBX.out.size hbd.size, (hbd.block _ hbl).trans HXB.out, fun g e => by cases e⟩⟩
              have hne : (((labR L fn : Nat) : Int) == ((labR L tn : Nat) : Int)) = false := by rw [beq_eq_false_iff_ne]; omega
              have hj40 : (j : Int) ≤ 40 := by omega
              generalize labR L tn = a at *
              generalize labR L fn = a2 at *
              clear hnb hP hlab HXB HBX HOP
              go_region
              all_goals (
                go_wp2_with fail
                clear k1 k2 d0 d1 d2 d3 hbl
                go_loopw [15, 16] (fun s15 s16 wr => ∃ (kk zl : Nat) (pz : Option Addr) (cz : Nat), s16 = .int .i64 (kk : Int) ∧ s15 = .slice pz zl cz ∧ kk ≤ j + 1 ∧ Hid (∃ zs gl w7, zs.length = zl ∧ SE w4.heap.size w4 gb ⟨(fn : Int), (tn : Int), kd, lb⟩ gl w7 P zs (.slice pz zl cz) wr)) (fun _ s16 _ => j + 2 - (intOf s16).toNat)
                case atStart => exact ⟨0, 1, _, 1, rfl, rfl, by omega, HSE0⟩
                case round =>
                  clear HSE0
                  obtain ⟨kk, zl, pz, cz, rfl, rfl, hkk, HS⟩ := hrel
                  obtain ⟨zs, gl, w7, hzl, hse⟩ := HS.out
                  have hzn : zl ≤ j := by rw [← hzl]; exact hse.len (fun z hz => (HPF.out z hz).2.1)
                  by_cases hkz : kk < zl
                  · have hkj : (kk : Int) ≤ (j : Int) := by omega
                    obtain ⟨p5, c5, hv5, hc5⟩ := hse.form (by omega)
                    injection hv5 with hp5 hq5 hr5
                    clear hq5 hr5
                    obtain ⟨g5, o5, hp6, hc6⟩ := hc5 kk (by omega)
                    rw [← hp5] at hp6
                    subst hp6
                    obtain ⟨z, hz⟩ : ∃ z, z = zs.getD kk 0 := ⟨_, rfl⟩
                    rw [← hz] at hc6
                    have hzm : z ∈ zs := by rw [hz, List.getD_eq_getElem?_getD, List.getElem?_eq_getElem (by omega)]; exact List.getElem_mem _
                    have hzP := hse.all z hzm
                    have HN1 := Lib.hid (HNX.out wr z (HTO3.out wr hse.below))
                    have HZP := Lib.hid (HPF.out z hzP)
                    have HSE := Lib.hid hse
                    have HZL := Lib.hid hzl
                    have hML := HNXL.out z
                    obtain ⟨ms, hms⟩ : ∃ ms, ms = nxA L z := ⟨_, rfl⟩
                    rw [← hms] at HN1 HZP hML
                    clear hse HS hz hzm hzP hc5 hp5 hzl hms
                    go_wp2_with fail
                    refine HN1.out.mono ?_
                    rintro e w8 ⟨lv2, rfl, ho8, hb8⟩
                    obtain ⟨M, hM⟩ : ∃ M, M = ms.length := ⟨_, rfl⟩
                    have hMi : (M : Int) ≤ 120 := by omega
                    obtain ⟨p8, c8, hv8, _, hc8⟩ := (ho8.ints (by rw [natI_len]; omega)).open_
                    rw [natI_len, ← hM] at hv8
                    rw [natI_len] at hc8
                    obtain ⟨gl, hgl⟩ : ∃ gl, gl = lv2.ownBlock := ⟨_, rfl⟩
                    have HS8 : Hid (∃ zs', zs'.length = zl ∧ SE w4.heap.size w4 gb ⟨(fn : Int), (tn : Int), kd, lb⟩ gl w8 P zs' (.slice (some ⟨g5, o5, none⟩) zl cz) w8) := Lib.hid ⟨zs, HZL.out, HSE.out.next hb8 (fun g hg => World.ownsRow.lt ho8 g (by rw [← hgl]; exact hg))⟩
                    have HM8 : Hid (∀ i, i < M → ∃ g o, p8 = some ⟨g, o, none⟩ ∧ gl = some g ∧ ∃ y : Nat, y ∈ ms ∧ ∀ Z : World, Z.heap[g]? = w8.heap[g]? → Z.cell? ⟨g, o + i, none⟩ = some (.int .i64 (y : Nat))) := Lib.hid fun i hi => by
                      have hi2 : i < ms.length := by omega
                      obtain ⟨g, o, h1, _, _, h2⟩ := hc8 i hi2
                      rw [natI_nat hi2] at h2
                      exact ⟨g, o, h1, by rw [hgl, hv8, h1]; rfl, ms[i], List.getElem_mem hi2, fun Z hZ => (World.cell?_of_block (w := w8) (a := ⟨g, o + i, none⟩) hZ).trans h2⟩
                    subst hv8
                    clear ho8 hb8 hc8 HN1 hc6 hgl HSE HZL hM hML
                    go_wp2_with fail
                    go_loopw [15, 110] (fun s15 s110 wr => ∃ (i zl' : Nat) (pz' : Option Addr) (cz' : Nat), s110 = .int .i64 (i : Int) ∧ s15 = .slice pz' zl' cz' ∧ i ≤ M ∧ Hid (∃ zs', zs'.length = zl' ∧ SE w4.heap.size w4 gb ⟨(fn : Int), (tn : Int), kd, lb⟩ gl w8 P zs' (.slice pz' zl' cz') wr)) (fun _ s110 _ => M - (intOf s110).toNat)
                    case atStart => exact ⟨0, zl, _, _, rfl, rfl, Nat.zero_le _, HS8⟩
                    case round =>
                      clear HS8
                      obtain ⟨i, zl', pz', cz', rfl, rfl, hi, HI⟩ := hrel
                      obtain ⟨zs', hzl', hse'⟩ := HI.out
                      by_cases hiM : i < M
                      · obtain ⟨g8, o8, rfl, hgl8, y, hym, hyc⟩ := HM8.out i hiM
                        have hyP := HZP.out.2.2 y hym
                        have hyF := HPF.out y hyP.1
                        have hc := hyc wr (hse'.keep g8 hgl8).1
                        obtain ⟨d0, d1, d2, d3⟩ := cellsA hse'.box
                        have hbl := heap_lt hse'.box
                        have hln : zs'.length ≤ j := hse'.len (fun z hz => (HPF.out z hz).2.1)
                        have HIN := Lib.hid (hse'.in_ (by omega) y)
                        have HSE := Lib.hid hse'
                        have HYP := Lib.hid hyP.1
                        have hyne : ((y : Int) == (fn : Int)) = false := by rw [beq_eq_false_iff_ne]; have := hyF.1; omega
                        have HZL := Lib.hid hzl'
                        clear hse' hgl8 hym hyc hyP hyF HI hzl'
                        by_cases hyz : y ∈ zs'
                        · rw [decide_eq_true hyz] at HIN
                          clear hyz
                          go_wp2_with fail
                          refine HIN.out.mono ?_
                          rintro e w9 ⟨rfl, rfl⟩
                          clear HIN d0 d1 d2 d3 hbl hc
                          go_wp2_with fail
                          go_roundw
                          case rel => exact ⟨i + 1, zl', _, _, by go_num, rfl, by omega, Lib.hid ⟨zs', HZL.out, HSE.out⟩⟩
                          case measure => simp [intOf]; omega
                        · rw [decide_eq_false hyz] at HIN
                          have HYZ := Lib.hid hyz
                          have HLN : Hid ((natI zs').length ≤ 40) := Lib.hid (by rw [natI_len]; omega)
                          have HZ2 : Hid (natI zs' ++ [(y : Int)] = natI (zs' ++ [y])) := Lib.hid (by simp [natI])
                          have hsz := HSE.out.size
                          clear hyz
                          go_wp2_with fail
                          refine HIN.out.mono ?_
                          rintro e w9 ⟨rfl, rfl⟩
                          clear HIN d0 d1 d2 d3 hbl hc
                          go_wp2_with (at_builtin; refine Lst.append_ints rfl (.tmp 122) (.tmp 124) rfl (B := w4.heap.size) (zs := natI zs') (ys := [(y : Int)]) (Nat.le_trans hsz (by simp)) (HSE.out.own.lay rfl _) rfl (Lst.int_lit (y : Int) _) (fun n c e => by cases e) rfl (by have := HLN.out; simp; omega) ?_; intro v2 w9 ho hg2 hat)
                          have HAPP := Lib.hid (HSE.out.app HYZ.out HYP.out ho hg2 hat)
                          obtain ⟨p9, c9, hv9⟩ : ∃ p c, v2 = .slice p (zl' + 1) c := by
                            rcases ho.form with ⟨h0, _⟩ | ⟨g, c, h1, _⟩
                            · simp at h0
                            · refine ⟨some ⟨g, 0, none⟩, c, ?_⟩
                              rw [h1, List.length_append, natI_len, HZL.out]
                              rfl
                          subst hv9
                          clear ho hg2 hat
                          go_wp2_with fail
                          go_roundw
                          case rel => exact ⟨i + 1, zl' + 1, p9, c9, by go_num, rfl, by omega, Lib.hid ⟨zs' ++ [y], by rw [List.length_append, HZL.out]; rfl, HAPP.out⟩⟩
                          case measure => simp [intOf]; omega
                      · have HFIN : Hid (∃ zs gl w7, zs.length = zl' ∧ SE w4.heap.size w4 gb ⟨(fn : Int), (tn : Int), kd, lb⟩ gl w7 P zs (.slice pz' zl' cz') wr) := Lib.hid ⟨zs', gl, w8, hzl', hse'⟩
                        clear hse' hzl' HI HM8
                        go_wp2_with fail
                        go_roundw
                        case rel => exact ⟨kk + 1, zl', _, _, by go_num, rfl, by omega, HFIN⟩
                        case measure => simp [intOf]; omega
                  · have HFIN : Hid (Below w4.heap.size w4 wr) := Lib.hid hse.below
                    clear hse HS hzl HNX HPF
                    go_wp2_with fail
                    go_roundw
                    case rel => exact ⟨k + 1, by go_num, by omega, HFIN⟩
                    case measure => simp [intOf]; omega)
          · have hke : k = K := by omega
            subst hke
            have hb3r := HTO3.out wr HZ.out
            have HBR := Lib.hid (hbt HB3.out hb3r)
            obtain ⟨d0, d1, d2, d3⟩ := cellsA ((hb3r.block _ (heap_lt HBX3.out)).trans HBX3.out)
            have hbl : gm < wr.heap.size := Nat.lt_of_lt_of_le (heap_lt HBX3.out) hb3r.size
            have hgq := HQ3.out.below hb3r
            have HADD := Lib.hid (add_q hgq (by omega) (by have := HQL.out; omega) ⟨m0, m1, m2, m3⟩)
            have HGQ := Lib.hid hgq
            have HCR : Hid (∀ i, i < j → ∃ g o, p = some ⟨g, o, none⟩ ∧ ∃ cs, wr.heap[g]? = some (Obj.cells cs 3 (0, 0)) ∧ wr.cell? ⟨g, o + i, none⟩ = some (.int .i64 ((labR L i : Nat) : Int))) := Lib.hid fun i hi => by
              obtain ⟨g, o, h1, cs, h2, h3⟩ := HC.out i hi
              exact ⟨g, o, h1, cs, (hb3r.block _ (heap_lt h2)).trans h2, (hb3r.cell (p := ⟨g, o + i, none⟩) (heap_lt h2)).trans h3⟩
            unfold vA at HADD
            simp only at HADD d0 d1 d2 d3
            clear hgq hb3r HZ HKA HNX HTO3 HW4 HB4 HQ3 HC HC3 HBX3 hlk hk
            go_wp2_with fail
            refine HADD.out.mono ?_
            rintro e w9 ⟨rfl, hq9, hf9⟩
            have hb9 : Below w.heap.size w w9 := HBR.out.trans ((HGQ.out.keep hf9 HBN.out.1 HBN.out.2).mono HB1.out.size)
            have HB9 := Lib.hid hb9
            have HC9 : Hid (∀ i, i < j → ∃ g o, p = some ⟨g, o, none⟩ ∧ ∀ Z, Below w9.heap.size w9 Z → Z.cell? ⟨g, o + i, none⟩ = some (.int .i64 ((labR L i : Nat) : Int))) := Lib.hid fun i hi => by
              obtain ⟨g, o, h1, cs, h2, h3⟩ := HCR.out i hi
              have h4 := HGQ.out.other hf9 h2 (by decide)
              have h5 := h4.trans h2
              exact ⟨g, o, h1, fun Z hZ => (hZ.cell (p := ⟨g, o + i, none⟩) (heap_lt h5)).trans ((World.cell?_of_block (w := wr) (a := ⟨g, o + i, none⟩) h4).trans h3)⟩
            have HLAB2 := Lib.hid (labels_any hq9 (by omega) mask)
            have k0 := (ofA_ends hq9.1 mask).1
            obtain ⟨L2, hL2⟩ : ∃ L2, L2 = ofA (addL j q ⟨m0, m1, m2, m3⟩) mask := ⟨_, rfl⟩
            rw [← hL2] at HLAB2 k0
            have HSAME : Hid (∀ i, labR L2 i = labR L2 (labR L i)) := Lib.hid (more_same HENDS.out.1 k0 (fun x hx => by rw [hL2]; rw [HLQ.out] at hx; exact ofA_add hx))
            clear hq9 hf9 hb9 HGQ HCR HADD HBR hL2 k0 d0 d1 d2 d3 hbl
            go_wp2_with fail
            refine HLAB2.out.mono ?_
            rintro e w10 ⟨lv2, rfl, ho10, hb10⟩
            obtain ⟨p2, c2, hv2, hc2⟩ := lab_open ho10 (by omega)
            subst hv2
            have HCN : Hid (∀ i, i < j → ∃ g o, p2 = some ⟨g, o, none⟩ ∧ ∀ Z, Below w10.heap.size w10 Z → Z.cell? ⟨g, o + i, none⟩ = some (.int .i64 ((labR L2 i : Nat) : Int))) := Lib.hid fun i hi => by
              obtain ⟨g, o, h1, cs, h2, h3⟩ := hc2 i hi
              exact ⟨g, o, h1, fun Z hZ => (hZ.cell (p := ⟨g, o + i, none⟩) (heap_lt h2)).trans h3⟩
            have HCO : Hid (∀ i, i < j → ∃ g o, p = some ⟨g, o, none⟩ ∧ ∀ Z, Below w10.heap.size w10 Z → Z.cell? ⟨g, o + i, none⟩ = some (.int .i64 ((labR L i : Nat) : Int))) := Lib.hid fun i hi => by
              obtain ⟨g, o, h1, h2⟩ := HC9.out i hi
              exact ⟨g, o, h1, fun Z hZ => h2 Z (hb10.trans (hZ.mono hb10.size))⟩
            have HB10 := Lib.hid (hbt HB9.out hb10)
            clear ho10 hb10 hc2 HLAB2 HC9 HB9
            go_wp2_with fail
            go_loopw [136] (fun s136 wr => ∃ i : Nat, s136 = .int .i64 (i : Int) ∧ i ≤ j ∧ Hid (Below w10.heap.size w10 wr)) (fun s136 _ => j - (intOf s136).toNat)
            case atStart => exact ⟨0, rfl, Nat.zero_le _, Lib.hid (Below.refl _ _)⟩
            case round =>
              obtain ⟨i, rfl, hi, HI⟩ := hrel
              by_cases hlt : i < j
              · obtain ⟨g1, o1, hp1, k1⟩ := HCN.out i hlt
                obtain ⟨g2, o2, hp2, k2⟩ := HCO.out i hlt
                have hle := (HLE.out i).1
                obtain ⟨x, hx⟩ : ∃ x, x = labR L i := ⟨_, rfl⟩
                rw [← hx] at k2 hle
                obtain ⟨g3, o3, hp3, k3⟩ := HCN.out x (by omega)
                have k1 := k1 wr HI.out
                have k2 := k2 wr HI.out
                have k3 := k3 wr HI.out
                have hsm := HSAME.out i
                rw [← hx] at hsm
                rw [hsm] at k1
                subst hp1 hp2
                injection hp3 with hp3
                injection hp3 with hp3 hp4
                subst hp3 hp4
                have hxi : (x : Int) < (j : Int) := by omega
                have hii : (i : Int) < (j : Int) := by omega
                have HID : Hid (∀ q, Below w10.heap.size w10 (wr.drewN q)) := Lib.hid fun q => below_drewN HI.out q
                generalize labR L2 x = a at *
                clear hx hle hsm HI
                go_wp2_with fail
                go_region
                all_goals (
                  go_wp2_with fail
                  go_roundw
                  case rel => exact ⟨i + 1, by go_num, by omega, Lib.hid (HID.out 1)⟩
                  case measure => simp [intOf]; omega)
              · have HFIN := Lib.hid (hbt HB10.out HI.out)
                clear HI HCN HCO
                go_wp2
                go_ret
                exact ⟨rfl, HFIN.out⟩
end Go.Proofs.YtimgdkafennohaaDoor.Sc
