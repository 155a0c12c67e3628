/-
  What stage 4's statements on all ask first: begins04. Not a statement of the seat.
-/
import Derived.Test.YtpbkclciipmonaaHead6
import Derived.Test.YtpbkclciipmonaaHead5
import Derived.Test.YtpbkclciipmonaaHead4
namespace Go.Proofs.Ytpbkclciipmonaa.F
open Go.ChangeShapes Go.WideShapes Go.ChangeAt Go.RowKit Base
theorem fr_vf {pv : Value} {o : Option Nat} {B : Nat} {w w' : World} (hf : Fr (VF pv o) w w') (hv : ∀ g, VF pv o g → B ≤ g) (hB : B ≤ w.heap.size) : Below B w w' := hf.below hv hB
theorem mv_vf {pv : Value} {o o' : Option Nat} {B : Nat} {w : World} (hm : Mv o o' w) (hv : ∀ g, VF pv o g → B ≤ g) (hB : B ≤ w.heap.size) : ∀ g, VF pv o' g → B ≤ g := fun g k => by
  rcases Nat.lt_or_ge g w.heap.size with hg | hg
  · exact hv g (hm.vf g hg k)
  · omega
set_option maxRecDepth 100000 in
set_option maxHeartbeats 16000000 in
theorem begins (w : World) : Calls Try.prog 19 #[] w fun e w' => e = .returned (.bool true) ∧ Below w.heap.size w w' := by
  go_enter Try.func19, Try.ntmps19
  go_wp2_with fail
  refine (arnew_any 40 w).mono ?_
  rintro e w1 ⟨rfl, hA, hb⟩
  have hav1 := ArV.of hA
  rw [show roomOf 40 = 40 by unfold roomOf; omega] at hav1
  obtain ⟨pa, hpa⟩ : ∃ pa, pa = some (⟨w.heap.size, 0, none⟩ : Addr) := ⟨_, rfl⟩
  have HA1 : Hid (ArV w1 (.pointer pa) none 40 []) := Lib.hid (by rw [hpa]; exact hav1)
  have HV1 : Hid (∀ g, VF (.pointer pa) none g → w.heap.size ≤ g) := Lib.hid fun g k => by
    rcases k with k | k
    · rw [hpa] at k; injection k with k; injection k with k; injection k with k; omega
    · cases k
  have HB1 := Lib.hid hb
  clear hA hb hav1
  go_wp2_with fail
  rw [← hpa]
  refine (pmnew HA1.out).mono ?_
  rintro e w2 ⟨rfl, hb2⟩
  have HA2 := Lib.hid (HA1.out.below hb2)
  have HB2 := Lib.hid (HB1.out.trans (hb2.mono HB1.out.size))
  clear hb2 HA1 HB1 hpa
  go_wp2_with fail
  refine (pmput ⟨1, 2⟩ (by unfold Pai.ok; simp only; omega) HA2.out (t := .nil) (root := 0) rfl (by decide)).mono ?_
  rintro e w3 ⟨root1, why1, zs1, o1, rfl, hav, hmv, hfr, hM⟩
  obtain ⟨rfl, hP⟩ : why1 = 0 ∧ PutP [] 1 (Tre.ins 1 2 .nil) zs1 root1 := by
    rcases hM with ⟨h, hP⟩ | ⟨_, _, _, hZ⟩
    · exact ⟨h, hP⟩
    · simp [Tre.high] at hZ
  have hb3 := fr_vf hfr HV1.out HB2.out.size
  have HV3 := Lib.hid (mv_vf hmv HV1.out HB2.out.size)
  have HB3 := Lib.hid (HB2.out.trans hb3)
  have HA3 := Lib.hid hav
  have HP := Lib.hid hP
  clear hav hmv hfr hM hP hb3 HA2 HV1 HB2
  have HX3 : Hid (∀ X, Below w3.heap.size w3 X → ArV X (.pointer pa) o1 40 zs1) := Lib.hid fun X hX => HA3.out.below hX
  have hbo : Below w3.heap.size w3 ((w3.alloc (boxM (.pointer pa) root1)).alloc (.cells #[.int .i64 7, .int .i64 8] 29)) := ((Below.refl _ _).alloc (Nat.le_refl _) _).alloc (by simp only [World.size_alloc]; omega) _
  obtain ⟨WO, hWO⟩ : ∃ WO, WO = (w3.alloc (boxM (.pointer pa) root1)).alloc (.cells #[.int .i64 7, .int .i64 8] 3) := ⟨_, rfl⟩
  have HBO : Hid (Below w3.heap.size w3 WO) := Lib.hid (by rw [hWO]; exact ((Below.refl _ _).alloc (Nat.le_refl _) _).alloc (by simp only [World.size_alloc]; omega) _)
  have HMB : Hid (WO.heap[w3.heap.size]? = some (boxM (.pointer pa) root1)) := Lib.hid (by rw [hWO]; exact heap_alloc_lt _ _ _ _ (heap_alloc_at _ _ _ rfl))
  have HNL : Hid (NL WO (.slice (some ⟨w3.heap.size + 1, 0, none⟩) 2 2) [7, 8] (VF (.pointer pa) o1)) := Lib.hid (.inr ⟨w3.heap.size + 1, 0, 2, rfl, by decide, by rw [hWO]; simp, fun k => by have := HA3.out.lt _ k; omega, fun k hk => by
    have hh : WO.heap[w3.heap.size + 1]? = some (.cells #[.int .i64 7, .int .i64 8] 3) := by rw [hWO]; exact heap_alloc_at _ _ _ (by simp)
    match k, hk with
    | 0, _ => simp [World.cell?, hh]
    | 1, _ => simp [World.cell?, hh]⟩)
  clear hbo
  unfold boxM at hWO
  go_wp2_with fail
  rw [← hWO]
  clear hWO
  refine (psof (HX3.out _ HBO.out) HNL.out (by decide) (by intro x hx; simp at hx; omega)).mono ?_
  rintro e w4 ⟨root2, why2, zs2, o2, rfl, hav, hmv, hfr, hM⟩
  obtain ⟨rfl, hP⟩ : why2 = 0 ∧ MoveP zs1 2 (mkN [7, 8]) zs2 root2 := by
    rcases hM with ⟨h, hP⟩ | ⟨_, _, _, hZ⟩
    · exact ⟨h, hP⟩
    · obtain ⟨⟨new, he, hn⟩, _⟩ := HP.out
      rw [he] at hZ
      simp at hZ
      omega
  have HBW : Hid (Below w.heap.size w WO) := Lib.hid (HB3.out.trans (HBO.out.mono HB3.out.size))
  have hb4 := fr_vf hfr HV3.out HBW.out.size
  have HB4 := Lib.hid (HBW.out.trans hb4)
  have HA4 := Lib.hid hav
  have HM4 : Hid (w4.heap[w3.heap.size]? = some (boxM (.pointer pa) root1)) := Lib.hid ((hfr.block (heap_lt HMB.out) (fun k => by have := HA3.out.lt _ k; omega)).trans HMB.out)
  have HTM : Hid (Tr zs2 (Tre.ins 1 2 .nil) root1) := Lib.hid (by
    obtain ⟨new, he, _⟩ := hP.1
    rw [he]
    exact HP.out.2.append new)
  have HTS := Lib.hid hP.2
  have hat : atV (mkN [7, 8]) 1 = (8, true) := by rw [atV_vals, mkN_vals _ _ rfl, mkN_size]; rfl
  clear hav hmv hfr hM hP hb4 HBO HMB HNL HX3 HA3 HP HV3 HB3 HBW
  have HX4 : Hid (∀ X, Below w4.heap.size w4 X → ArV X (.pointer pa) o2 40 zs2 ∧ X.heap[w3.heap.size]? = some (boxM (.pointer pa) root1)) := Lib.hid fun X hX => ⟨HA4.out.below hX, (hX.block _ (heap_lt HM4.out)).trans HM4.out⟩
  have HB5 : Hid (Below w4.heap.size w4 (w4.alloc (boxS (.pointer pa) root2))) := Lib.hid ((Below.refl _ _).alloc (Nat.le_refl _) _)
  have HAT := Lib.hid (psat 1 (HX4.out _ HB5.out).1 HTS.out (by omega))
  rw [hat] at HAT
  clear hat
  go_wp2_with fail
  refine HAT.out.mono ?_
  rintro e w5 ⟨rfl, hb5⟩
  have HB6 : Hid (Below w4.heap.size w4 w5) := Lib.hid (HB5.out.trans (hb5.mono HB5.out.size))
  clear hb5 HAT HB5
  go_wp2_with fail
  refine (fqnew 1 w5).mono ?_
  rintro e w6 ⟨qb, qg, rfl, hq, hqb, hqg, hb7⟩
  rw [show roomOf 1 = 1 by unfold roomOf; omega] at hq
  have HB7 : Hid (Below w4.heap.size w4 w6) := Lib.hid (HB6.out.trans (hb7.mono HB6.out.size))
  have HQ := Lib.hid hq
  have HQB : Hid (w.heap.size ≤ qb ∧ w.heap.size ≤ qg) := Lib.hid (by have := HB6.out.size; have := HB4.out.size; omega)
  obtain ⟨_, m0, m1⟩ := cellsM (HX4.out _ HB7.out).2
  clear hq hqb hqg hb7 HB6
  go_wp2_with fail
  refine (pmlen (HX4.out _ HB7.out).1 HTM.out).mono ?_
  rintro e w7 ⟨rfl, hb8⟩
  have HB8 : Hid (Below w4.heap.size w4 w7) := Lib.hid (HB7.out.trans (hb8.mono HB7.out.size))
  have HQ7 := Lib.hid (HQ.out.below hb8)
  rw [show ((Tre.ins 1 2 .nil).size : Int) = 1 from rfl]
  clear hb8 m0 m1 HB7 HQ
  go_wp2_with fail
  refine (fqpush_ok HQ7.out (by decide) 1).mono ?_
  rintro e w8 ⟨rfl, hq8, hf8⟩
  have HB9 : Hid (Below w.heap.size w w8) := Lib.hid ((HB4.out.trans (HB8.out.mono HB4.out.size)).trans (hf8.below (fun g k => by have := HQB.out; rcases k with k | k <;> omega) (by have := HB4.out.size; have := HB8.out.size; omega)))
  have HQ8 := Lib.hid hq8
  clear hq8 hf8 HB8 HQ7
  go_wp2_with fail
  refine (fqpush_full HQ8.out rfl 2).mono ?_
  rintro e w9 ⟨rfl, n9, rfl⟩
  go_wp2_with fail
  go_ret
  exact ⟨rfl, below_drewN HB9.out _⟩
end Go.Proofs.Ytpbkclciipmonaa.F
