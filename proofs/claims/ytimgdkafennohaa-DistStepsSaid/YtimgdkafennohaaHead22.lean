/-
  Contracts of small functions, several texts laid into one. Not a statement of the seat.
-/
import Derived.Test.YtimgdkafennohaaDs9
import Derived.Test.YtimgdkafennohaaHead21
import Derived.Test.YtimgdkafennohaaLstSame
import Derived.Deep.DeepCutAuto
namespace Go.Proofs.Ytimgdkafennohaa.Ds
open Go.ChangeShapes Go.WideShapes Go.ChangeAt Go.RowKit Base F Gr
def arcs3 : List Arc := [⟨0, 1, 1, 0⟩, ⟨1, 2, 3, 0⟩, ⟨0, 2, 1, 0⟩]
def q3 : List Arc := [⟨0, 1, 1, 0⟩, ⟨0, 2, 1, 0⟩, ⟨1, 2, 3, 0⟩]
theorem q3_made : madeA 3 arcs3 = q3 := by decide
theorem ansL_ext {n st : Nat} {d d' : Nat → Option Nat} (h : ∀ v, d v = d' v) : ansL n st d = ansL n st d' := by
  unfold ansL
  refine List.map_congr_left fun v _ => ?_
  rw [h]
/-- A list of numbers, new. -/
def NewL (w : World) (zs : List Int) (e : Ending) (w' : World) : Prop := ∃ v, e = .returned v ∧ Lst.OwnI w.heap.size w' v zs ∧ Below w.heap.size w w'
theorem ans_chk {w w' : World} {e : Ending} {n st a : Nat} {least : Int} {pv : Nat → List Nat} {l : List (Option Nat)} {zs : List Int} (hc : chkD n least pv a l = true) (hz : ansL n st (fun x => l.getD x none) = zs) (h : AnsP w n st (okP n least) pv a e w') : NewL w zs e w' := by
  obtain ⟨v, d, h1, h2, h3, h4⟩ := h
  rw [ansL_ext (fun x => h2.one (chkD_ok hc) x), hz] at h3
  exact ⟨v, h1, h3, h4⟩
theorem none_chk (n : Nat) (least : Int) (pv : Nat → List Nat) (a : Nat) (h : okP n least a = false) : chkD n least pv a [] = true := by
  unfold chkD
  rw [h]
  simp
theorem f_to : chkD 3 0 (pvP (prQ q3) 14 0) (startP 3 2) [some 1, none, some 1, none, some 0, none] = true := by decide +kernel
theorem f_must : chkD 3 0 (pvP (prQ q3) 14 8) (startP 3 2) [some 1, some 2, none, some 1, some 0, none] = true := by decide +kernel
theorem f_to2 : chkD 3 0 (pvP (prQ q3) 2 0) (startP 3 2) [some 1, none, none, none, some 0, none] = true := by decide +kernel
theorem f_to1 : chkD 3 1 (pvP (prQ q3) 14 0) (startP 3 2) [none, none, some 1, none, some 0, none] = true := by decide +kernel
theorem f_way1 : chkD 3 0 (pvP (prQ q3) 14 0) (startP 3 1) [some 1, none, some 0, none, none, none] = true := by decide +kernel
theorem f_way0 : chkD 3 0 (pvP (prQ q3) 14 0) (startP 3 0) [some 0, none, none, none, none, none] = true := by decide +kernel
/-- A walk of one arc. -/
def OneA (w : World) (t : Int) (e : Ending) (w' : World) : Prop := ∃ g o c, e = .returned (.tuple #[.slice (some ⟨g, o, none⟩) 1 c, .bool true]) ∧ g < w'.heap.size ∧ w'.cell? ⟨g, o + 1, none⟩ = some (.int .i64 t) ∧ Below w.heap.size w w'
def NoA (w : World) (is : Bool) (e : Ending) (w' : World) : Prop := ∃ p c, e = .returned (.tuple #[.slice p 0 c, .bool is]) ∧ Below w.heap.size w w'
theorem own_nil_form {B : Nat} {w : World} {v : Value} (h : OwnArc B w v []) : ∃ p c, v = .slice p 0 c := by
  obtain ⟨p, c, hv, _⟩ := (h.list (by simp)).open_
  exact ⟨p, c, hv⟩
theorem way_one {w w' : World} {e : Ending} {t : Int} {l : List (Option Nat)} {k : Nat} (hc : chkD 3 0 (pvP (prQ q3) 14 0) (startP 3 t) l = true) (hk : l.getD (2 * k) none = some 1) (h : WayP w 3 q3 14 0 (k : Int) t e w') : OneA w t e w' := by
  obtain ⟨d, hd, v, L, is, he, ho, hw, hb⟩ := h
  have e1 := hd.one (chkD_ok hc) (2 * k)
  rw [hk] at e1
  rcases hw with ⟨u, m, h1, h2, h3, h4, h5, h6⟩ | ⟨h1, _⟩
  · have eu : u = k := by omega
    rw [eu, e1] at h2
    injection h2 with h2
    subst h3
    match L, h4, h5, ho with
    | [a], _, h5, ho =>
      have ht : a.to = t := h5.2
      have h7 := ho.list (by simp)
      obtain ⟨p, c, hv, _, hcells⟩ := h7.open_
      obtain ⟨g, o, rfl, _, hg, _, h8, _⟩ := hcells 0 (by simp)
      refine ⟨g, o, c, by rw [he, hv]; rfl, hg, ?_, hb⟩
      have h9 : w'.cell? ⟨g, o + 0 * 4 + 1, none⟩ = some (.int .i64 a.to) := h8
      rw [ht, show o + 0 * 4 + 1 = o + 1 by omega] at h9
      exact h9
    | [], h4, _, _ => simp at h4; omega
    | _ :: _ :: _, h4, _, _ => simp at h4; omega
  · have := h1 k rfl
    rw [e1] at this
    cases this
theorem way_zero {w w' : World} {e : Ending} {t : Int} {l : List (Option Nat)} {k : Nat} (hc : chkD 3 0 (pvP (prQ q3) 14 0) (startP 3 t) l = true) (hk : l.getD (2 * k) none = some 0) (h : WayP w 3 q3 14 0 (k : Int) t e w') : NoA w true e w' := by
  obtain ⟨d, hd, v, L, is, he, ho, hw, hb⟩ := h
  have e1 := hd.one (chkD_ok hc) (2 * k)
  rw [hk] at e1
  rcases hw with ⟨u, m, h1, h2, h3, h4, h5, h6⟩ | ⟨h1, _⟩
  · have eu : u = k := by omega
    rw [eu, e1] at h2
    injection h2 with h2
    subst h3
    have : L = [] := List.length_eq_zero_iff.1 (by omega)
    subst this
    obtain ⟨p, c, rfl⟩ := own_nil_form ho
    exact ⟨p, c, he, hb⟩
  · have := h1 k rfl
    rw [e1] at this
    cases this
theorem way_none {w w' : World} {e : Ending} {t : Int} {l : List (Option Nat)} {k : Nat} (hc : chkD 3 0 (pvP (prQ q3) 14 0) (startP 3 t) l = true) (hk : l.getD (2 * k) none = none) (h : WayP w 3 q3 14 0 (k : Int) t e w') : NoA w false e w' := by
  obtain ⟨d, hd, v, L, is, he, ho, hw, hb⟩ := h
  have e1 := hd.one (chkD_ok hc) (2 * k)
  rw [hk] at e1
  rcases hw with ⟨u, m, h1, h2, h3, h4, h5, h6⟩ | ⟨h1, h2, h3⟩
  · have eu : u = k := by omega
    rw [eu, e1] at h2
    cases h2
  · subst h2 h3
    obtain ⟨p, c, rfl⟩ := own_nil_form ho
    exact ⟨p, c, he, hb⟩
set_option maxRecDepth 100000 in
theorem nodes_nil (X : World) : Calls Try.prog 24 #[.pointer none] X (HeldP (.int .i64 0) X) := nodes_any (m := 0) (n := 0) (.inl ⟨rfl, rfl, rfl⟩)
theorem to_nil (mask node least : Int) (w : World) : Calls Try.prog 6 #[.pointer none, .int .i64 mask, .int .i64 node, .int .i64 least] w (NewL w []) :=
  (to_any (w := w) (n := 0) (pg := none) (pv := fun _ _ => []) (by omega) (fun W _ => nodes_nil W) (pvOk_nil w _) mask node least).mono fun e w' h => by
    obtain ⟨v, d, h1, _, h3, h4⟩ := h
    exact ⟨v, h1, h3, h4⟩
set_option maxRecDepth 100000 in
theorem way_nil (mask to_ least : Int) (w : World) : Calls Try.prog 8 #[.pointer none, .int .i64 mask, .int .i64 0, .int .i64 to_, .int .i64 least] w (NoA w false) := by
  have HT := Lib.hid (to_nil mask to_ least w)
  go_enter Try.func8, Try.ntmps8
  go_wp2_with fail
  refine HT.out.mono ?_
  rintro e w2 ⟨v, rfl, ho, hb⟩
  obtain ⟨p, c, hv, _⟩ := (ho.ints (by simp)).open_
  simp only [List.length_nil] at hv
  subst hv
  have HR : Hid (NoA w false (.returned (.tuple #[.slice none 0 0, .bool false])) w2) := Lib.hid ⟨_, _, rfl, hb⟩
  clear HT ho hb
  go_wp2
  refine bodyPost_ret (results_tmp2 rfl _ _ _) rfl ?_
  exact HR.out
end Go.Proofs.Ytimgdkafennohaa.Ds
namespace Go.Proofs.Ytimgdkafennohaa.Ds
open Go.ChangeShapes Go.WideShapes Go.ChangeAt Go.RowKit Base F Gr
theorem lit3 (w : World) : Arcs w.heap.size (w.alloc (.cells #[.int .i64 0, .int .i64 1, .int .i64 1, .int .i64 0, .int .i64 1, .int .i64 2, .int .i64 3, .int .i64 0, .int .i64 0, .int .i64 2, .int .i64 1, .int .i64 0] 32)) (.slice (some ⟨w.heap.size, 0, none⟩) 3 3) arcs3 := by
  refine .inr ⟨w.heap.size, 0, 3, rfl, Nat.le_refl _, by simp, by decide, fun k hk => ?_⟩
  have h3 : k = 0 ∨ k = 1 ∨ k = 2 := by have : arcs3.length = 3 := rfl; omega
  have hx := heap_alloc_at w (.cells #[.int .i64 0, .int .i64 1, .int .i64 1, .int .i64 0, .int .i64 1, .int .i64 2, .int .i64 3, .int .i64 0, .int .i64 0, .int .i64 2, .int .i64 1, .int .i64 0] 32) w.heap.size rfl
  generalize w.alloc (.cells #[.int .i64 0, .int .i64 1, .int .i64 1, .int .i64 0, .int .i64 1, .int .i64 2, .int .i64 3, .int .i64 0, .int .i64 0, .int .i64 2, .int .i64 1, .int .i64 0] 32) = X at hx ⊢
  rcases h3 with rfl | rfl | rfl <;> simp [World.cell?, hx, arcs3]
def TruW (w : World) (e : Ending) (w' : World) : Prop := e = .returned (.bool true) ∧ Below w.heap.size w w'
set_option maxRecDepth 100000 in
set_option maxHeartbeats 8000000 in
theorem lives_any (w : World) : Calls Try.prog 4 #[] w (TruW w) := by
  obtain ⟨w1, hw1⟩ : ∃ w1, w1 = w.alloc (.cells #[.int .i64 0, .int .i64 1, .int .i64 1, .int .i64 0, .int .i64 1, .int .i64 2, .int .i64 3, .int .i64 0, .int .i64 0, .int .i64 2, .int .i64 1, .int .i64 0] 32) := ⟨_, rfl⟩
  have hb1 : Below w.heap.size w w1 := by rw [hw1]; exact (Below.refl _ _).alloc (Nat.le_refl _) _
  have hl1 : Arcs 0 w1 (.slice (some ⟨w.heap.size, 0, none⟩) 3 3) arcs3 := by rw [hw1]; exact (lit3 w).mono (Nat.zero_le _)
  have HM : Hid (Calls Try.prog 5 #[.int .i64 3, .slice (some ⟨w.heap.size, 0, none⟩) 3 3] w1 (MadeP w1 3 q3)) := Lib.hid (by have := made_any 3 w1 hl1 (by decide); rw [show roomL 3 = 3 from rfl, q3_made] at this; exact this)
  have HB1 := Lib.hid hb1
  clear hl1 hb1
  go_enter Try.func4, Try.ntmps4
  go_wp2_with fail
  rw [← hw1]
  clear hw1
  refine HM.out.mono ?_
  rintro e w2 ⟨b, nbs, rfl, hq, _, hb2⟩
  have HB2 := Lib.hid (hbt HB1.out hb2)
  have HW1 : Hid (∀ Z, Below w2.heap.size w2 Z → Calls Try.prog 8 #[.pointer (some ⟨b, 0, none⟩), .int .i64 14, .int .i64 0, .int .i64 2, .int .i64 0] Z (OneA Z 2)) := Lib.hid fun Z hZ => (way_any (hq.below hZ) (by omega) (by decide) 14 (by omega) 0 2 0).mono fun e w' h => way_one (k := 0) f_to (by rfl) h
  have HW2 : Hid (∀ Z, Below w2.heap.size w2 Z → Calls Try.prog 8 #[.pointer (some ⟨b, 0, none⟩), .int .i64 14, .int .i64 1, .int .i64 1, .int .i64 0] Z (NoA Z true)) := Lib.hid fun Z hZ => (way_any (hq.below hZ) (by omega) (by decide) 14 (by omega) 1 1 0).mono fun e w' h => way_zero (k := 1) f_way1 (by rfl) h
  have HW3 : Hid (∀ Z, Below w2.heap.size w2 Z → Calls Try.prog 8 #[.pointer (some ⟨b, 0, none⟩), .int .i64 14, .int .i64 2, .int .i64 0, .int .i64 0] Z (NoA Z false)) := Lib.hid fun Z hZ => (way_any (hq.below hZ) (by omega) (by decide) 14 (by omega) 2 0 0).mono fun e w' h => way_none (k := 2) f_way0 (by rfl) h
  have HW4 : Hid (∀ Z, Below w2.heap.size w2 Z → Calls Try.prog 8 #[.pointer (some ⟨b, 0, none⟩), .int .i64 14, .int .i64 0, .int .i64 3, .int .i64 0] Z (NoA Z false)) := Lib.hid fun Z hZ => (way_any (hq.below hZ) (by omega) (by decide) 14 (by omega) 0 3 0).mono fun e w' h => way_none (k := 0) (none_chk 3 0 _ (startP 3 3) (by decide)) (by rfl) h
  have HT1 : Hid (∀ Z, Below w2.heap.size w2 Z → Calls Try.prog 6 #[.pointer (some ⟨b, 0, none⟩), .int .i64 14, .int .i64 2, .int .i64 0] Z (NewL Z [1, 1, 0])) := Lib.hid fun Z hZ => (to_any (w := Z) (n := 3) (by omega) (fun W hW => nodes_q ((hq.below hZ).below hW)) (pvOk_of (hq.below hZ) (by omega) (by decide)) 14 2 0).mono fun e w' h => ans_chk f_to (by decide) h
  have HT2 : Hid (∀ Z, Below w2.heap.size w2 Z → Calls Try.prog 11 #[.pointer (some ⟨b, 0, none⟩), .int .i64 14, .int .i64 8, .int .i64 2, .int .i64 0] Z (NewL Z [2, 1, -1])) := Lib.hid fun Z hZ => (must_any (w := Z) (n := 3) (by omega) (fun W hW => nodes_q ((hq.below hZ).below hW)) (pvOk_of (hq.below hZ) (by omega) (by decide)) 14 8 2 0).mono fun e w' h => ans_chk f_must (by decide) h
  have HT3 : Hid (∀ Z, Below w2.heap.size w2 Z → Calls Try.prog 6 #[.pointer (some ⟨b, 0, none⟩), .int .i64 2, .int .i64 2, .int .i64 0] Z (NewL Z [1, -1, 0])) := Lib.hid fun Z hZ => (to_any (w := Z) (n := 3) (by omega) (fun W hW => nodes_q ((hq.below hZ).below hW)) (pvOk_of (hq.below hZ) (by omega) (by decide)) 2 2 0).mono fun e w' h => ans_chk f_to2 (by decide) h
  have HT4 : Hid (∀ Z, Below w2.heap.size w2 Z → Calls Try.prog 6 #[.pointer (some ⟨b, 0, none⟩), .int .i64 14, .int .i64 2, .int .i64 1] Z (NewL Z [-1, 1, 0])) := Lib.hid fun Z hZ => (to_any (w := Z) (n := 3) (by omega) (fun W hW => nodes_q ((hq.below hZ).below hW)) (pvOk_of (hq.below hZ) (by omega) (by decide)) 14 2 1).mono fun e w' h => ans_chk f_to1 (by decide) h
  have HT5 : Hid (∀ Z, Below w2.heap.size w2 Z → Calls Try.prog 6 #[.pointer (some ⟨b, 0, none⟩), .int .i64 14, .int .i64 0, .int .i64 1] Z (NewL Z [-1, -1, -1])) := Lib.hid fun Z hZ => (to_any (w := Z) (n := 3) (by omega) (fun W hW => nodes_q ((hq.below hZ).below hW)) (pvOk_of (hq.below hZ) (by omega) (by decide)) 14 0 1).mono fun e w' h => ans_chk (none_chk 3 1 _ (startP 3 0) (by decide)) (by decide) h
  have HT6 : Hid (∀ Z, Below w2.heap.size w2 Z → Calls Try.prog 6 #[.pointer (some ⟨b, 0, none⟩), .int .i64 14, .int .i64 5, .int .i64 0] Z (NewL Z [-1, -1, -1])) := Lib.hid fun Z hZ => (to_any (w := Z) (n := 3) (by omega) (fun W hW => nodes_q ((hq.below hZ).below hW)) (pvOk_of (hq.below hZ) (by omega) (by decide)) 14 5 0).mono fun e w' h => ans_chk (none_chk 3 0 _ (startP 3 5) (by decide)) (by decide) h
  have HBZ : Hid (Below w2.heap.size w2 w2) := Lib.hid (Below.refl _ _)
  clear hq hb2 HM HB1
  go_wp2_with fail
  refine (HW1.out _ HBZ.out).mono ?_
  rintro e w3 ⟨g3, o3, c3, rfl, hg3, hc3, hb⟩
  have HB3 := Lib.hid (hbt HBZ.out hb)
  have HC3 : Hid (∀ Z, Below w3.heap.size w3 Z → g3 < Z.heap.size ∧ Z.cell? ⟨g3, o3 + 1, none⟩ = some (.int .i64 2)) := Lib.hid fun Z hZ => ⟨Nat.lt_of_lt_of_le hg3 hZ.size, (hZ.cell (p := ⟨g3, _, none⟩) hg3).trans hc3⟩
  clear hg3 hc3 hb HBZ HW1
  go_wp2_with fail
  have HD3 : Hid (Below w3.heap.size w3 w3) := Lib.hid (Below.refl _ _)
  refine (HW2.out _ HB3.out).mono ?_
  rintro e w4 ⟨p4, c4, rfl, hb⟩
  have HB4 := Lib.hid (hbt HB3.out hb)
  have HD4 := Lib.hid (hbt HD3.out hb)
  clear hb HW2 HB3 HD3
  go_wp2_with fail
  refine (HW3.out _ HB4.out).mono ?_
  rintro e w5 ⟨p5, c5, rfl, hb⟩
  have HB5 := Lib.hid (hbt HB4.out hb)
  have HD5 := Lib.hid (hbt HD4.out hb)
  clear hb HW3 HB4 HD4
  go_wp2_with fail
  refine (HW4.out _ HB5.out).mono ?_
  rintro e w6 ⟨p6, c6, rfl, hb⟩
  have HB6 := Lib.hid (hbt HB5.out hb)
  have HD6 := Lib.hid (hbt HD5.out hb)
  clear hb HW4 HB5 HD5
  go_wp2_with fail
  refine (way_nil 14 0 0 _).mono ?_
  rintro e w7 ⟨p7, c7, rfl, hb⟩
  have HB7 := Lib.hid (hbt HB6.out hb)
  have HD7 := Lib.hid (hbt HD6.out hb)
  clear hb HB6 HD6
  go_wp2_with fail
  refine (HT1.out _ HB7.out).mono ?_
  rintro e y7 ⟨lv7, rfl, hl, hb⟩
  have HBY7 := Lib.hid (hbt HB7.out hb)
  have HDY7 := Lib.hid (hbt HD7.out hb)
  have HL7 := Lib.hid (hl.ints (by simp))
  clear hl hb HT1 HB7 HD7
  go_wp2_with fail
  refine (Lst.sameInts_yes (HL7.out.below ((Below.refl _ _).alloc (Nat.le_refl _) _)) (Lst.lit_ints [1, 1, 0] y7 _ (#[.int .i64 1, .int .i64 1, .int .i64 0]) rfl (by decide) _ rfl)).mono ?_
  rintro e z ⟨rfl, k, rfl⟩
  obtain ⟨w8, hy⟩ : ∃ Y, Y = World.drewN (y7.alloc (.cells #[.int .i64 1, .int .i64 1, .int .i64 0] 3)) k := ⟨_, rfl⟩
  have hb : Below y7.heap.size y7 w8 := by rw [hy]; exact below_drewN ((Below.refl _ _).alloc (Nat.le_refl _) _) k
  have HB8 := Lib.hid (hbt HBY7.out hb)
  have HD8 := Lib.hid (hbt HDY7.out hb)
  rw [← hy]
  clear hy hb HL7 HBY7 HDY7
  go_wp2_with fail
  refine (HT2.out _ HB8.out).mono ?_
  rintro e y8 ⟨lv8, rfl, hl, hb⟩
  have HBY8 := Lib.hid (hbt HB8.out hb)
  have HDY8 := Lib.hid (hbt HD8.out hb)
  have HL8 := Lib.hid (hl.ints (by simp))
  clear hl hb HT2 HB8 HD8
  go_wp2_with fail
  refine (Lst.sameInts_yes (HL8.out.below ((Below.refl _ _).alloc (Nat.le_refl _) _)) (Lst.lit_ints [2, 1, -1] y8 _ (#[.int .i64 2, .int .i64 1, .int .i64 (-1)]) rfl (by decide) _ rfl)).mono ?_
  rintro e z ⟨rfl, k, rfl⟩
  obtain ⟨w9, hy⟩ : ∃ Y, Y = World.drewN (y8.alloc (.cells #[.int .i64 2, .int .i64 1, .int .i64 (-1)] 3)) k := ⟨_, rfl⟩
  have hb : Below y8.heap.size y8 w9 := by rw [hy]; exact below_drewN ((Below.refl _ _).alloc (Nat.le_refl _) _) k
  have HB9 := Lib.hid (hbt HBY8.out hb)
  have HD9 := Lib.hid (hbt HDY8.out hb)
  rw [← hy]
  clear hy hb HL8 HBY8 HDY8
  go_wp2_with fail
  refine (HT3.out _ HB9.out).mono ?_
  rintro e y9 ⟨lv9, rfl, hl, hb⟩
  have HBY9 := Lib.hid (hbt HB9.out hb)
  have HDY9 := Lib.hid (hbt HD9.out hb)
  have HL9 := Lib.hid (hl.ints (by simp))
  clear hl hb HT3 HB9 HD9
  go_wp2_with fail
  refine (Lst.sameInts_yes (HL9.out.below ((Below.refl _ _).alloc (Nat.le_refl _) _)) (Lst.lit_ints [1, -1, 0] y9 _ (#[.int .i64 1, .int .i64 (-1), .int .i64 0]) rfl (by decide) _ rfl)).mono ?_
  rintro e z ⟨rfl, k, rfl⟩
  obtain ⟨w10, hy⟩ : ∃ Y, Y = World.drewN (y9.alloc (.cells #[.int .i64 1, .int .i64 (-1), .int .i64 0] 3)) k := ⟨_, rfl⟩
  have hb : Below y9.heap.size y9 w10 := by rw [hy]; exact below_drewN ((Below.refl _ _).alloc (Nat.le_refl _) _) k
  have HB10 := Lib.hid (hbt HBY9.out hb)
  have HD10 := Lib.hid (hbt HDY9.out hb)
  rw [← hy]
  clear hy hb HL9 HBY9 HDY9
  go_wp2_with fail
  refine (HT4.out _ HB10.out).mono ?_
  rintro e y10 ⟨lv10, rfl, hl, hb⟩
  have HBY10 := Lib.hid (hbt HB10.out hb)
  have HDY10 := Lib.hid (hbt HD10.out hb)
  have HL10 := Lib.hid (hl.ints (by simp))
  clear hl hb HT4 HB10 HD10
  go_wp2_with fail
  refine (Lst.sameInts_yes (HL10.out.below ((Below.refl _ _).alloc (Nat.le_refl _) _)) (Lst.lit_ints [-1, 1, 0] y10 _ (#[.int .i64 (-1), .int .i64 1, .int .i64 0]) rfl (by decide) _ rfl)).mono ?_
  rintro e z ⟨rfl, k, rfl⟩
  obtain ⟨w11, hy⟩ : ∃ Y, Y = World.drewN (y10.alloc (.cells #[.int .i64 (-1), .int .i64 1, .int .i64 0] 3)) k := ⟨_, rfl⟩
  have hb : Below y10.heap.size y10 w11 := by rw [hy]; exact below_drewN ((Below.refl _ _).alloc (Nat.le_refl _) _) k
  have HB11 := Lib.hid (hbt HBY10.out hb)
  have HD11 := Lib.hid (hbt HDY10.out hb)
  rw [← hy]
  clear hy hb HL10 HBY10 HDY10
  go_wp2_with fail
  refine (HT5.out _ HB11.out).mono ?_
  rintro e y11 ⟨lv11, rfl, hl, hb⟩
  have HBY11 := Lib.hid (hbt HB11.out hb)
  have HDY11 := Lib.hid (hbt HD11.out hb)
  have HL11 := Lib.hid (hl.ints (by simp))
  clear hl hb HT5 HB11 HD11
  go_wp2_with fail
  refine (Lst.sameInts_yes (HL11.out.below ((Below.refl _ _).alloc (Nat.le_refl _) _)) (Lst.lit_ints [-1, -1, -1] y11 _ (#[.int .i64 (-1), .int .i64 (-1), .int .i64 (-1)]) rfl (by decide) _ rfl)).mono ?_
  rintro e z ⟨rfl, k, rfl⟩
  obtain ⟨w12, hy⟩ : ∃ Y, Y = World.drewN (y11.alloc (.cells #[.int .i64 (-1), .int .i64 (-1), .int .i64 (-1)] 3)) k := ⟨_, rfl⟩
  have hb : Below y11.heap.size y11 w12 := by rw [hy]; exact below_drewN ((Below.refl _ _).alloc (Nat.le_refl _) _) k
  have HB12 := Lib.hid (hbt HBY11.out hb)
  have HD12 := Lib.hid (hbt HDY11.out hb)
  rw [← hy]
  clear hy hb HL11 HBY11 HDY11
  go_wp2_with fail
  refine (HT6.out _ HB12.out).mono ?_
  rintro e y12 ⟨lv12, rfl, hl, hb⟩
  have HBY12 := Lib.hid (hbt HB12.out hb)
  have HDY12 := Lib.hid (hbt HD12.out hb)
  have HL12 := Lib.hid (hl.ints (by simp))
  clear hl hb HT6 HB12 HD12
  go_wp2_with fail
  refine (Lst.sameInts_yes (HL12.out.below ((Below.refl _ _).alloc (Nat.le_refl _) _)) (Lst.lit_ints [-1, -1, -1] y12 _ (#[.int .i64 (-1), .int .i64 (-1), .int .i64 (-1)]) rfl (by decide) _ rfl)).mono ?_
  rintro e z ⟨rfl, k, rfl⟩
  obtain ⟨w13, hy⟩ : ∃ Y, Y = World.drewN (y12.alloc (.cells #[.int .i64 (-1), .int .i64 (-1), .int .i64 (-1)] 3)) k := ⟨_, rfl⟩
  have hb : Below y12.heap.size y12 w13 := by rw [hy]; exact below_drewN ((Below.refl _ _).alloc (Nat.le_refl _) _) k
  have HB13 := Lib.hid (hbt HBY12.out hb)
  have HD13 := Lib.hid (hbt HDY12.out hb)
  rw [← hy]
  clear hy hb HL12 HBY12 HDY12
  obtain ⟨hg3, hc3⟩ := HC3.out _ HD13.out
  go_wp2_with fail
  refine (to_nil 14 0 0 _).mono ?_
  rintro e z ⟨lv, rfl, ho, hb⟩
  obtain ⟨pv, cv, hv, _⟩ := (ho.ints (by simp)).open_
  simp only [List.length_nil] at hv
  subst hv
  have HZ : Hid (Below w.heap.size w z) := Lib.hid (hbt HB2.out (hbt HB13.out hb))
  clear ho hb
  go_wp2_with fail
  go_ret
  exact ⟨rfl, HZ.out⟩
end Go.Proofs.Ytimgdkafennohaa.Ds
