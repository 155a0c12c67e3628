/-
  The answers that the document gives of maps are there. Not a statement of the seat.
-/
import Derived.Test.YtpmimngngehmlaaPmSt
import Derived.Deep.Cut
import Derived.Deep.CutRange
import Derived.Deep.DeepCutAuto
import Derived.Deep.RegionHeld3
namespace Go.Proofs.Ytpmimngngehmlaa.F
open Go.ChangeShapes Go.WideShapes Go.ChangeAt Go.RowKit Base
/-- What stays, and a second arena beside it. -/
def PT (w0 w : World) (pv : Value) (o : Option Nat) (room : Nat) (zs : List Cel) (bs : List (Nat × Obj)) (b2 : Nat) (o2 : Option Nat) (zs2 : List Cel) : Prop :=
  PS w0 w pv o room zs (.slice none 0 0) [] bs ∧ ArV w (.pointer (some ⟨b2, 0, none⟩)) o2 1 zs2 ∧ w0.heap.size ≤ b2 ∧ (∀ g, VF (.pointer (some ⟨b2, 0, none⟩)) o2 g → w0.heap.size ≤ g ∧ ¬ VF pv o g ∧ ∀ p ∈ bs, p.1 ≠ g)
section
variable {w0 w w' : World} {pv : Value} {o : Option Nat} {room : Nat} {zs : List Cel} {bs : List (Nat × Obj)} {b2 : Nat} {o2 : Option Nat} {zs2 : List Cel}
theorem PT.new (h : PS w0 w pv o room zs (.slice none 0 0) [] bs) {b : Nat} (e : b = w.heap.size) (hA : ArAt w' b none 1 []) (hb : Below w.heap.size w w') : PT w0 w' pv o room zs bs b none [] := by
  subst e
  exact ⟨h.below hb, ArV.of hA, h.1.2.1.size, fun g k => by
    have e : g = w.heap.size := by
      rcases k with k | k
      · injection k with k; injection k with k; injection k with k; exact k.symm
      · cases k
    subst e
    exact ⟨h.1.2.1.size, fun k => Nat.lt_irrefl _ (h.1.1.lt _ k), fun p hp e => by have := heap_lt (h.2.2 p hp).1; omega⟩⟩
theorem PT.below (h : PT w0 w pv o room zs bs b2 o2 zs2) (hb : Below w.heap.size w w') : PT w0 w' pv o room zs bs b2 o2 zs2 := ⟨h.1.below hb, h.2.1.below hb, h.2.2.1, h.2.2.2⟩
theorem PT.add (h : PT w0 w pv o room zs bs b2 o2 zs2) (ob : Obj) : PT w0 (w.alloc ob) pv o room zs ((w.heap.size, ob) :: bs) b2 o2 zs2 := by
  refine ⟨h.1.add ob, h.2.1.below ((Below.refl _ _).alloc (Nat.le_refl _) ob), h.2.2.1, fun g k => ⟨(h.2.2.2 g k).1, (h.2.2.2 g k).2.1, fun p hp => ?_⟩⟩
  rcases List.mem_cons.1 hp with rfl | hp
  · exact fun e => by have := h.2.1.lt g k; simp only at e; omega
  · exact (h.2.2.2 g k).2.2 p hp
theorem PT.step {zs3 : List Cel} {v : Value} {e : Ending} (h : PT w0 w pv o room zs bs b2 o2 zs2) (hs : ArStep (.pointer (some ⟨b2, 0, none⟩)) o2 1 zs3 v w e w') : e = .returned v ∧ ∃ o3, Hid (PT w0 w' pv o room zs bs b2 o3 zs3) := by
  obtain ⟨he, o3, h1, h2, h3⟩ := hs
  obtain ⟨⟨⟨k1, k2, k3⟩, _, k5⟩, k6, k7, k8⟩ := h
  have hk : ∀ g, VF (.pointer (some ⟨b2, 0, none⟩)) o3 g → w0.heap.size ≤ g ∧ ¬ VF pv o g ∧ ∀ p ∈ bs, p.1 ≠ g := fun g k => by
    by_cases hg : g < w.heap.size
    · exact k8 g (h2.vf g hg k)
    · refine ⟨by have := k2.size; omega, fun k' => by have := k1.lt g k'; omega, fun p hp e => by have := heap_lt (k5 p hp).1; omega⟩
  refine ⟨he, o3, Lib.hid ⟨⟨⟨k1.fr h3 (fun g hv k => (k8 g k).2.1 hv), ?_, k3⟩, QS.nil _ _ _, fun p hp => ⟨?_, (k5 p hp).2⟩⟩, h1, k7, hk⟩⟩
  · exact ((Fr.of_below (F := VF (.pointer (some ⟨b2, 0, none⟩)) o2) k2).trans h3 (fun g _ k => k)).below (fun g k => (k8 g k).1) (Nat.le_refl _)
  · exact (h3.block (heap_lt (k5 p hp).1) (fun k => (k8 _ k).2.2 p hp rfl)).trans (k5 p hp).1
theorem PT.store {g : Nat} {ob ob' : Obj} (h : PT w0 w pv o room zs ((g, ob) :: bs) b2 o2 zs2) (hn : ∀ p ∈ bs, p.1 ≠ g) (h0 : w0.heap.size ≤ g) (hs : Stored w g ob' w') : PT w0 w' pv o room zs ((g, ob') :: bs) b2 o2 zs2 := by
  obtain ⟨⟨⟨k1, k2, k3⟩, _, k5⟩, k6, k7, k8⟩ := h
  have hg := k5 (g, ob) (List.mem_cons_self ..)
  have hf : Fr (fun k => k = g) w w' := ⟨hs.1, hs.2.1, hs.2.2.1, by rw [hs.2.2.2.1]; exact Nat.le_refl _, fun k _ hn => hs.2.2.2.2.2 k hn⟩
  refine ⟨⟨⟨k1.fr hf (fun k hv e => hg.2 (e ▸ hv)), hs.below k2 h0, k3⟩, QS.nil _ _ _, fun p hp => ?_⟩, k6.fr hf (fun k hv e => (k8 k hv).2.2 (g, ob) (List.mem_cons_self ..) e.symm), k7, fun k hv => ⟨(k8 k hv).1, (k8 k hv).2.1, fun p hp => ?_⟩⟩
  · rcases List.mem_cons.1 hp with rfl | hp
    · exact ⟨hs.2.2.2.2.1, hg.2⟩
    · have := k5 p (List.mem_cons_of_mem _ hp)
      exact ⟨(hs.2.2.2.2.2 p.1 (hn p hp)).trans this.1, this.2⟩
  · rcases List.mem_cons.1 hp with rfl | hp
    · exact (k8 k hv).2.2 (g, ob) (List.mem_cons_self ..)
    · exact (k8 k hv).2.2 p (List.mem_cons_of_mem _ hp)
end
theorem arnew_b (n : Int) (w : World) : Calls Try.prog 13 #[.int .i64 n] w fun e w' => ∃ b, e = .returned (.pointer (some ⟨b, 0, none⟩)) ∧ b = w.heap.size ∧ ArAt w' b none (roomOf n) [] ∧ Below w.heap.size w w' :=
  (arnew_any n w).mono fun _ _ ⟨h1, h2, h3⟩ => ⟨_, h1, rfl, h2, h3⟩
def T1 : Tre := Tre.ins 1 5 .nil
def T2 : Tre := Tre.ins 2 6 T1
theorem T1_eq : T1 = .node .nil 1 5 .nil := rfl
theorem T2_size : T2.size = 2 := by decide
theorem T_facts : T2.size = 2 ∧ T1.rank 1 = 0 ∧ T1.rank 2 = 1 ∧ T1.high = 1 ∧ Tre.nil.size = 0 ∧ Tre.nil.high = 0 := by decide
theorem LS2 : ((T2.size : Nat) : Int) = 2 := by decide
theorem LS0 : ((Tre.nil.size : Nat) : Int) = 0 := by decide
theorem LR1 : ((T1.rank 1 : Nat) : Int) = 0 := by decide
theorem LR2 : ((T1.rank 2 : Nat) : Int) = 1 := by decide
theorem LH1 : ((T1.high : Nat) : Int) = 1 := by decide
theorem LH0 : ((Tre.nil.high : Nat) : Int) = 0 := by decide
theorem mkT1_size : (mkT T1.list).size < 65536 := by rw [← Tre.list_len, mkT_list _ _ rfl]; decide
theorem same_self {ba bb : Nat} {v u : Value} {l : List Pai} {w : World} (ha : OwnPai ba w v l) (hb : OwnPai bb w u l) (hl : l.length ≤ 100000) : Calls Try.prog 21 #[v, u] w fun e w' => e = .returned (.bool true) ∧ Below w.heap.size w w' :=
  (same_ref v u l l w (ha.list (by omega)) (hb.list (by omega)) hl).mono fun _ _ ⟨h, n, h2⟩ => ⟨by rw [h, (sameL_iff l l).2 rfl], by rw [h2]; exact below_drewN (Below.refl _ _) n⟩
theorem pmlist_nil (w : World) : Calls Try.prog 20 #[.agg #[.pointer none, .int .i64 0]] w fun e w' => ∃ p c, e = .returned (.slice p 0 c) ∧ Below w.heap.size w w' :=
  (pmlist (ArV.nil w) (t := .nil) (root := 0) rfl (by decide)).mono fun _ _ ⟨v, h, ho, hb⟩ => by
    obtain ⟨p, c, hv, _⟩ := (ho.list (by decide)).open_
    exact ⟨p, c, by rw [h, hv]; rfl, hb⟩
theorem p15 : Pai.ok ⟨1, 5⟩ := by unfold Pai.ok; simp
theorem p26 : Pai.ok ⟨2, 6⟩ := by unfold Pai.ok; simp
theorem p11 : Pai.ok ⟨1, 1⟩ := by unfold Pai.ok; simp
set_option maxHeartbeats 16000000 in
set_option maxRecDepth 100000 in
theorem pmlives (w : World) : Calls Try.prog 12 #[] w fun e w' => e = .returned (.bool true) ∧ Below w.heap.size w w' := by
  go_enter Try.func12, Try.ntmps12
  go_wp2_with fail
  refine (arnew_any 64 w).mono ?_
  rintro e w1 ⟨rfl, hA, hb⟩
  have P1 : Hid (PS w w1 (.pointer (some ⟨w.heap.size, 0, none⟩)) none 64 [] (.slice none 0 0) [] []) := Lib.hid ⟨AI.new hA hb (Nat.le_refl _), QS.nil _ _ _, fun p hp => by cases hp⟩
  clear hA hb
  go_wp2_with fail
  refine (pmnew (P1.out).1.1).mono ?_
  rintro e w2 ⟨rfl, hb⟩
  have P2 := Lib.hid ((P1.out.below hb).add (boxM (.pointer (some ⟨w.heap.size, 0, none⟩)) 0))
  clear hb P1
  go_wp2_with fail
  refine (pmput ⟨1, 5⟩ p15 P2.out.1.1 (t := .nil) (root := 0) rfl (by decide)).mono ?_
  intro e w3 hp
  obtain ⟨rt1, why, zs1, hs, hM⟩ := hp.step
  obtain ⟨rfl, o3, P3⟩ := P2.out.step hs
  have H1 : Hid (why = 0 ∧ zs1.length ≤ 1 ∧ Tr zs1 T1 rt1) := Lib.hid (by
    rcases hM.out with ⟨h0, ⟨new, he, hn⟩, ht⟩ | ⟨_, _, _, hz⟩
    · exact ⟨h0, by rw [he]; simpa [Tre.high] using hn, ht⟩
    · simp [Tre.high] at hz)
  obtain ⟨rfl, hl1⟩ : why = 0 ∧ zs1.length ≤ 1 := ⟨H1.out.1, H1.out.2.1⟩
  have P4 := Lib.hid (P3.out.add (boxM (.pointer (some ⟨w.heap.size, 0, none⟩)) rt1))
  clear hp hs hM P2
  go_wp2_with fail
  refine (pmput ⟨2, 6⟩ p26 P4.out.1.1 (t := T1) (root := rt1) H1.out.2.2 (by decide)).mono ?_
  intro e w5 hp
  obtain ⟨rt2, why, zs2, hs, hM⟩ := hp.step
  obtain ⟨rfl, o5, P5⟩ := P4.out.step hs
  have H2 : Hid (why = 0 ∧ zs2.length ≤ 5 ∧ Tr zs2 T2 rt2 ∧ Tr zs2 T1 rt1) := Lib.hid (by
    rcases hM.out with ⟨h0, ⟨new, he, hn⟩, ht⟩ | ⟨_, _, _, hz⟩
    · refine ⟨h0, ?_, ht, by rw [he]; exact H1.out.2.2.append _⟩
      rw [he, List.length_append]
      have : 3 * T1.high + 1 = 4 := by decide
      omega
    · have : 3 * T1.high + 1 = 4 := by decide
      omega)
  obtain ⟨rfl, hl2⟩ : why = 0 ∧ zs2.length ≤ 5 := ⟨H2.out.1, H2.out.2.1⟩
  have P6 := Lib.hid (P5.out.add (boxM (.pointer (some ⟨w.heap.size, 0, none⟩)) rt2))
  obtain ⟨hg3, x0, x1⟩ := cellsM (P5.out.2.2 (w3.heap.size, boxM (.pointer (some ⟨w.heap.size, 0, none⟩)) rt1) (by simp)).1
  clear hp hs hM P4 H1 hl1
  go_wp2_with fail
  refine (pmdel_none 2 P6.out.1.1 (t := T1) (root := rt1) H2.out.2.2.2 (by decide)).mono ?_
  rintro e w7 ⟨rfl, hb⟩
  have P7 := Lib.hid (P6.out.below hb)
  have P8 := Lib.hid (P7.out.add (boxM (.pointer (some ⟨w.heap.size, 0, none⟩)) 0))
  clear hb P6 x0 x1 hg3
  obtain ⟨hg3, x0, x1⟩ := cellsM (P7.out.2.2 (w3.heap.size, boxM (.pointer (some ⟨w.heap.size, 0, none⟩)) rt1) (by simp)).1
  go_wp2_with fail
  refine (pmdel 1 P8.out.1.1 (t := T1) (root := rt1) H2.out.2.2.2 (by decide) (by decide)).mono ?_
  intro e w9 hp
  obtain ⟨rt3, why, zs3, hs, hM⟩ := hp.step
  obtain ⟨rfl, o9, P9⟩ := P8.out.step hs
  have H3 : Hid (why = 0 ∧ rt3 = 0 ∧ Tr zs3 T2 rt2 ∧ Tr zs3 T1 rt1) := Lib.hid (by
    rcases hM.out with ⟨h0, ⟨new, he, hn⟩, ht⟩ | ⟨_, _, _, hz⟩
    · exact ⟨h0, ht, by rw [he]; exact H2.out.2.2.1.append _, by rw [he]; exact H2.out.2.2.2.append _⟩
    · have : 3 * T1.high = 3 := by decide
      omega)
  obtain ⟨rfl, rfl⟩ : why = 0 ∧ rt3 = 0 := ⟨H3.out.1, H3.out.2.1⟩
  have P10 := Lib.hid (P9.out.add (boxM (.pointer (some ⟨w.heap.size, 0, none⟩)) 0))
  clear hp hs hM P8 H2 hl2 x0 x1 hg3
  obtain ⟨hg3, x0, x1⟩ := cellsM (P9.out.2.2 (w3.heap.size, boxM (.pointer (some ⟨w.heap.size, 0, none⟩)) rt1) (by simp)).1
  go_wp2_with fail
  have hG := pmget 1 P10.out.1.1 (t := T1) (root := rt1) H3.out.2.2.2
  rw [show T1.look 1 = (5, true) by decide] at hG
  refine hG.mono ?_
  rintro e w11 ⟨rfl, hb⟩
  have P11 := Lib.hid (P10.out.below hb)
  clear hb P10 x0 x1 hg3 hG
  obtain ⟨hg3, x0, x1⟩ := cellsM (P11.out.2.2 (w3.heap.size, boxM (.pointer (some ⟨w.heap.size, 0, none⟩)) rt1) (by simp)).1
  go_wp2_with fail
  have hG := pmat 0 P11.out.1.1 (t := T1) (root := rt1) H3.out.2.2.2 (by decide) (by decide)
  rw [show T1.nth 0 = (⟨1, 5⟩, true) by rfl] at hG
  refine hG.mono ?_
  rintro e w12 ⟨rfl, hb⟩
  have P12 := Lib.hid (P11.out.below hb)
  have P13 := Lib.hid (P12.out.add (boxP ⟨1, 5⟩))
  clear hb P11 x0 x1 hg3 hG
  obtain ⟨hg3, x0, x1⟩ := cellsM (P12.out.2.2 (w3.heap.size, boxM (.pointer (some ⟨w.heap.size, 0, none⟩)) rt1) (by simp)).1
  go_wp2_with fail
  have hG := pmat 1 P13.out.1.1 (t := T1) (root := rt1) H3.out.2.2.2 (by decide) (by decide)
  rw [show T1.nth 1 = (Pai.zero, false) by rfl] at hG
  refine hG.mono ?_
  rintro e w14 ⟨rfl, hb⟩
  have P14 := Lib.hid (P13.out.below hb)
  have P15 := Lib.hid (P14.out.add (boxP Pai.zero))
  clear hb P13 x0 x1 hg3 hG
  obtain ⟨hg3, x0, x1⟩ := cellsM (P14.out.2.2 (w3.heap.size, boxM (.pointer (some ⟨w.heap.size, 0, none⟩)) rt1) (by simp)).1
  go_upto_region 12 with fail
  go_cut [17, 18] (fun s17 s18 wx => ∃ (g17 b2 : Nat) (rtu : Int) (o2 : Option Nat) (zsu : List Cel), s17 = .pointer (some ⟨g17, 0, none⟩) ∧ s18 = .int .i64 0 ∧ Hid (PT w wx (.pointer (some ⟨w.heap.size, 0, none⟩)) o9 64 zs3 ((g17, boxM (.pointer (some ⟨b2, 0, none⟩)) rtu) :: [(w14.heap.size, boxP Pai.zero), (w12.heap.size, boxP ⟨1, 5⟩), (w9.heap.size, boxM (.pointer (some ⟨w.heap.size, 0, none⟩)) 0), (w7.heap.size, boxM (.pointer (some ⟨w.heap.size, 0, none⟩)) 0), (w5.heap.size, boxM (.pointer (some ⟨w.heap.size, 0, none⟩)) rt2), (w3.heap.size, boxM (.pointer (some ⟨w.heap.size, 0, none⟩)) rt1), (w2.heap.size, boxM (.pointer (some ⟨w.heap.size, 0, none⟩)) 0)]) b2 o2 zsu ∧ Tr zsu (mkT T1.list) rtu))
  case first =>
    have JS0 : Hid (PS w _ (.pointer (some ⟨w.heap.size, 0, none⟩)) o9 64 zs3 (.slice none 0 0) [] [(w14.heap.size, boxP Pai.zero), (w12.heap.size, boxP ⟨1, 5⟩), (w9.heap.size, boxM (.pointer (some ⟨w.heap.size, 0, none⟩)) 0), (w7.heap.size, boxM (.pointer (some ⟨w.heap.size, 0, none⟩)) 0), (w5.heap.size, boxM (.pointer (some ⟨w.heap.size, 0, none⟩)) rt2), (w3.heap.size, boxM (.pointer (some ⟨w.heap.size, 0, none⟩)) rt1), (w2.heap.size, boxM (.pointer (some ⟨w.heap.size, 0, none⟩)) 0)]) := Lib.hid (P15.out.below (Below.refl _ _).drew)
    refine wp_region_held_drew (S := (fun X => X.cell? ⟨w3.heap.size, 0, none⟩ = some (.pointer (some ⟨w.heap.size, 0, none⟩)) ∧ X.cell? ⟨w3.heap.size, 1, none⟩ = some (.int .i64 rt1))) (by kernel_rfl) (cellsM (JS0.out.2.2 (w3.heap.size, boxM (.pointer (some ⟨w.heap.size, 0, none⟩)) rt1) (List.mem_cons_of_mem _ (List.mem_cons_of_mem _ (List.mem_cons_of_mem _ (List.mem_cons_of_mem _ (List.mem_cons_of_mem _ (List.mem_cons_self ..))))))).1).2 (fun hHeld0 => ?_)
    refine wpAnyH_take (i := 0) (v := ?_) rfl (by kernel_rfl) (by kernel_rfl) (by kernel_rfl) (fun _ _ _ h => h) (Or.inl ⟨by rfl, ?ylv1⟩) (by assumption) ?qlv1
    case ylv1 => (intro wz hSw; (try dsimp only at hSw); go_simp <;> with_reducible rfl)
    try simp only [Act.put, List.getElem_toArray, List.getElem_cons_zero, List.setIfInBounds_toArray, List.set_cons_zero, List.set_cons_succ]
    refine wpAnyH_ready (rs := [1, 6]) (by kernel_rfl) (by simp) ?_
    refine AllReadyH.cons rfl (fun K hK => ?blv2) ?clv2
    case blv2 =>
      go_simp
      refine (arnew_b 1 _).mono ?_
      rintro e wn2 ⟨b2, rfl, hbe, hA, hb⟩
      have JT2 := Lib.hid (PT.new JS0.out hbe hA hb)
      clear hbe hA hb
      try go_wp2_with fail
      refine hK.out _ _ ((cellsM (JT2.out.1.2.2 (w3.heap.size, boxM (.pointer (some ⟨w.heap.size, 0, none⟩)) rt1) (List.mem_cons_of_mem _ (List.mem_cons_of_mem _ (List.mem_cons_of_mem _ (List.mem_cons_of_mem _ (List.mem_cons_of_mem _ (List.mem_cons_self ..))))))).1).2) (fun hHeld2 => ?_)
      clear hK K
      try simp only [Act.put, List.getElem_toArray, List.getElem_cons_zero, List.getElem_cons_succ, List.setIfInBounds_toArray, List.set_cons_zero, List.set_cons_succ]
      refine wpAnyH_ready (rs := [2, 6]) (by kernel_rfl) (by simp) ?_
      refine AllReadyH.cons rfl (fun K hK => ?blv3) ?clv3
      case blv3 =>
        go_simp
        refine (pmmove JT2.out.1.1.1 (t := T1) (root := rt1) H3.out.2.2.2 (by decide) JT2.out.2.1).mono ?_
        intro e wn3 hp
        obtain ⟨rtu, why, zsu, hs, hM⟩ := hp.step
        obtain ⟨rfl, o2, JT3⟩ := JT2.out.step hs
        have HU : Hid (why = 0 ∧ Tr zsu (mkT T1.list) rtu) := Lib.hid (match hM.out with | .inl ⟨h0, _, ht⟩ => ⟨h0, ht⟩ | .inr ⟨_, _, _, hz⟩ => absurd hz (by decide))
        obtain rfl : why = 0 := HU.out.1
        clear hp hs hM
        try go_wp2_with fail
        refine hK.out _ _ ((cellsM (JT3.out.1.2.2 (w3.heap.size, boxM (.pointer (some ⟨w.heap.size, 0, none⟩)) rt1) (List.mem_cons_of_mem _ (List.mem_cons_of_mem _ (List.mem_cons_of_mem _ (List.mem_cons_of_mem _ (List.mem_cons_of_mem _ (List.mem_cons_self ..))))))).1).2) (fun hHeld3 => ?_)
        clear hK K
        try simp only [Act.put, List.getElem_toArray, List.getElem_cons_zero, List.getElem_cons_succ, List.setIfInBounds_toArray, List.set_cons_zero, List.set_cons_succ]
        refine wpAnyH_take (i := 3) (v := ?_) rfl (by kernel_rfl) (by kernel_rfl) (by kernel_rfl) (fun _ _ _ h => h) (Or.inl ⟨by rfl, ?ylv4⟩) (by assumption) ?qlv4
        case ylv4 => (intro wz hSw; (try dsimp only at hSw); go_simp <;> with_reducible rfl)
        try simp only [Act.put, List.getElem_toArray, List.getElem_cons_zero, List.getElem_cons_succ, List.setIfInBounds_toArray, List.set_cons_zero, List.set_cons_succ]
        refine wpAnyH_take (i := 4) (v := ?_) rfl (by kernel_rfl) (by kernel_rfl) (by kernel_rfl) (fun _ _ _ h => h) (Or.inl ⟨by rfl, ?ylv5⟩) (by assumption) ?qlv5
        case ylv5 => (intro wz hSw; (try dsimp only at hSw); go_simp <;> with_reducible rfl)
        try simp only [Act.put, List.getElem_toArray, List.getElem_cons_zero, List.getElem_cons_succ, List.setIfInBounds_toArray, List.set_cons_zero, List.set_cons_succ]
        refine wpAnyH_take (i := 5) (v := ?_) rfl (by kernel_rfl) (by kernel_rfl) (by kernel_rfl) (fun _ _ _ h => h) (Or.inl ⟨by rfl, ?ylv6⟩) (by assumption) ?qlv6
        case ylv6 => (intro wz hSw; (try dsimp only at hSw); go_simp <;> with_reducible rfl)
        try simp only [Act.put, List.getElem_toArray, List.getElem_cons_zero, List.getElem_cons_succ, List.setIfInBounds_toArray, List.set_cons_zero, List.set_cons_succ]
        refine wpAnyH_ready (rs := [6]) (by kernel_rfl) (by simp) ?_
        refine AllReadyH.cons rfl (fun K hK => ?_) AllReadyH.nil
        rw [if_pos (by rfl)]
        refine wp_alloc_map rfl ?_
        intro g17 wn7 hg7 hw7
        have D17 : Hid ((∀ p ∈ ([(w14.heap.size, boxP Pai.zero), (w12.heap.size, boxP ⟨1, 5⟩), (w9.heap.size, boxM (.pointer (some ⟨w.heap.size, 0, none⟩)) 0), (w7.heap.size, boxM (.pointer (some ⟨w.heap.size, 0, none⟩)) 0), (w5.heap.size, boxM (.pointer (some ⟨w.heap.size, 0, none⟩)) rt2), (w3.heap.size, boxM (.pointer (some ⟨w.heap.size, 0, none⟩)) rt1), (w2.heap.size, boxM (.pointer (some ⟨w.heap.size, 0, none⟩)) 0)] : List (Nat × Obj)), p.1 ≠ g17) ∧ w.heap.size ≤ g17) := Lib.hid (by rw [hg7]; exact ⟨fun p hp e => Nat.lt_irrefl _ (Nat.lt_of_lt_of_eq (heap_lt (JT3.out.1.2.2 p hp).1) e.symm), JT3.out.1.1.2.1.size⟩)
        have JT7 := Lib.hid (show PT w wn7 (.pointer (some ⟨w.heap.size, 0, none⟩)) o9 64 zs3 ((g17, boxM (.pointer none) 0) :: [(w14.heap.size, boxP Pai.zero), (w12.heap.size, boxP ⟨1, 5⟩), (w9.heap.size, boxM (.pointer (some ⟨w.heap.size, 0, none⟩)) 0), (w7.heap.size, boxM (.pointer (some ⟨w.heap.size, 0, none⟩)) 0), (w5.heap.size, boxM (.pointer (some ⟨w.heap.size, 0, none⟩)) rt2), (w3.heap.size, boxM (.pointer (some ⟨w.heap.size, 0, none⟩)) rt1), (w2.heap.size, boxM (.pointer (some ⟨w.heap.size, 0, none⟩)) 0)]) b2 _ _ from (by rw [hg7, hw7]; exact JT3.out.add _))
        clear hg7 hw7
        refine hK.out _ _ ((cellsM (JT7.out.1.2.2 (w3.heap.size, boxM (.pointer (some ⟨w.heap.size, 0, none⟩)) rt1) (List.mem_cons_of_mem _ (List.mem_cons_of_mem _ (List.mem_cons_of_mem _ (List.mem_cons_of_mem _ (List.mem_cons_of_mem _ (List.mem_cons_of_mem _ (List.mem_cons_self ..)))))))).1).2) (fun hHeld7 => ?_)
        clear hK K
        try simp only [Act.put, List.getElem_toArray, List.getElem_cons_zero, List.getElem_cons_succ, List.setIfInBounds_toArray, List.set_cons_zero, List.set_cons_succ]
        refine wpAnyH_ready (rs := [7]) (by kernel_rfl) (by simp) ?_
        refine AllReadyH.cons rfl (fun K hK => ?_) AllReadyH.nil
        rw [if_pos (by rfl)]
        refine wp_store_map (.tmp 17) (.tmp 69) rfl g17 (some ⟨b2, 0, none⟩) none rtu 0 rfl rfl (JT7.out.1.2.2 (g17, boxM (.pointer none) 0) (List.mem_cons_self ..)).1 ?_
        intro wn8 hst
        have JT8 := Lib.hid (JT7.out.store D17.out.1 D17.out.2 hst)
        clear hst
        refine hK.out _ _ ((cellsM (JT8.out.1.2.2 (w3.heap.size, boxM (.pointer (some ⟨w.heap.size, 0, none⟩)) rt1) (List.mem_cons_of_mem _ (List.mem_cons_of_mem _ (List.mem_cons_of_mem _ (List.mem_cons_of_mem _ (List.mem_cons_of_mem _ (List.mem_cons_of_mem _ (List.mem_cons_self ..)))))))).1).2) (fun hHeld8 => ?_)
        clear hK K
        try simp only [Act.put, List.getElem_toArray, List.getElem_cons_zero, List.getElem_cons_succ]
        refine wpAnyH_take (i := 8) (v := ?_) rfl (by kernel_rfl) (by kernel_rfl) (by kernel_rfl) (fun _ _ _ h => h) (Or.inl ⟨by rfl, ?ylv9⟩) (by assumption) ?qlv9
        case ylv9 => (intro wz hSw; (try dsimp only at hSw); go_simp <;> with_reducible rfl)
        try simp only [Act.put, List.getElem_toArray, List.getElem_cons_zero, List.getElem_cons_succ, List.setIfInBounds_toArray, List.set_cons_zero, List.set_cons_succ]
        refine wpAnyH_done (by kernel_rfl) ?_ _
        go_wp2_with fail
        go_meet
        case rel => exact ⟨g17, b2, rtu, o2, zsu, rfl, rfl, Lib.hid ⟨JT8.out, HU.out.2⟩⟩
      refine AllReadyH.cons rfl (fun K hK => ?blv10) ?clv10
      case blv10 =>
        rw [if_pos (by rfl)]
        refine wp_alloc_map rfl ?_
        intro g17 wn10 hg10 hw10
        have D17 : Hid ((∀ p ∈ ([(w14.heap.size, boxP Pai.zero), (w12.heap.size, boxP ⟨1, 5⟩), (w9.heap.size, boxM (.pointer (some ⟨w.heap.size, 0, none⟩)) 0), (w7.heap.size, boxM (.pointer (some ⟨w.heap.size, 0, none⟩)) 0), (w5.heap.size, boxM (.pointer (some ⟨w.heap.size, 0, none⟩)) rt2), (w3.heap.size, boxM (.pointer (some ⟨w.heap.size, 0, none⟩)) rt1), (w2.heap.size, boxM (.pointer (some ⟨w.heap.size, 0, none⟩)) 0)] : List (Nat × Obj)), p.1 ≠ g17) ∧ w.heap.size ≤ g17) := Lib.hid (by rw [hg10]; exact ⟨fun p hp e => Nat.lt_irrefl _ (Nat.lt_of_lt_of_eq (heap_lt (JT2.out.1.2.2 p hp).1) e.symm), JT2.out.1.1.2.1.size⟩)
        have JT10 := Lib.hid (show PT w wn10 (.pointer (some ⟨w.heap.size, 0, none⟩)) o9 64 zs3 ((g17, boxM (.pointer none) 0) :: [(w14.heap.size, boxP Pai.zero), (w12.heap.size, boxP ⟨1, 5⟩), (w9.heap.size, boxM (.pointer (some ⟨w.heap.size, 0, none⟩)) 0), (w7.heap.size, boxM (.pointer (some ⟨w.heap.size, 0, none⟩)) 0), (w5.heap.size, boxM (.pointer (some ⟨w.heap.size, 0, none⟩)) rt2), (w3.heap.size, boxM (.pointer (some ⟨w.heap.size, 0, none⟩)) rt1), (w2.heap.size, boxM (.pointer (some ⟨w.heap.size, 0, none⟩)) 0)]) b2 _ _ from (by rw [hg10, hw10]; exact JT2.out.add _))
        clear hg10 hw10
        refine hK.out _ _ ((cellsM (JT10.out.1.2.2 (w3.heap.size, boxM (.pointer (some ⟨w.heap.size, 0, none⟩)) rt1) (List.mem_cons_of_mem _ (List.mem_cons_of_mem _ (List.mem_cons_of_mem _ (List.mem_cons_of_mem _ (List.mem_cons_of_mem _ (List.mem_cons_of_mem _ (List.mem_cons_self ..)))))))).1).2) (fun hHeld10 => ?_)
        clear hK K
        try simp only [Act.put, List.getElem_toArray, List.getElem_cons_zero, List.getElem_cons_succ, List.setIfInBounds_toArray, List.set_cons_zero, List.set_cons_succ]
        refine wpAnyH_ready (rs := [2]) (by kernel_rfl) (by simp) ?_
        refine AllReadyH.cons rfl (fun K hK => ?_) AllReadyH.nil
        go_simp
        refine (pmmove JT10.out.1.1.1 (t := T1) (root := rt1) H3.out.2.2.2 (by decide) JT10.out.2.1).mono ?_
        intro e wn11 hp
        obtain ⟨rtu, why, zsu, hs, hM⟩ := hp.step
        obtain ⟨rfl, o2, JT11⟩ := JT10.out.step hs
        have HU : Hid (why = 0 ∧ Tr zsu (mkT T1.list) rtu) := Lib.hid (match hM.out with | .inl ⟨h0, _, ht⟩ => ⟨h0, ht⟩ | .inr ⟨_, _, _, hz⟩ => absurd hz (by decide))
        obtain rfl : why = 0 := HU.out.1
        clear hp hs hM
        try go_wp2_with fail
        refine hK.out _ _ ((cellsM (JT11.out.1.2.2 (w3.heap.size, boxM (.pointer (some ⟨w.heap.size, 0, none⟩)) rt1) (List.mem_cons_of_mem _ (List.mem_cons_of_mem _ (List.mem_cons_of_mem _ (List.mem_cons_of_mem _ (List.mem_cons_of_mem _ (List.mem_cons_of_mem _ (List.mem_cons_self ..)))))))).1).2) (fun hHeld11 => ?_)
        clear hK K
        try simp only [Act.put, List.getElem_toArray, List.getElem_cons_zero, List.getElem_cons_succ, List.setIfInBounds_toArray, List.set_cons_zero, List.set_cons_succ]
        refine wpAnyH_take (i := 3) (v := ?_) rfl (by kernel_rfl) (by kernel_rfl) (by kernel_rfl) (fun _ _ _ h => h) (Or.inl ⟨by rfl, ?ylv12⟩) (by assumption) ?qlv12
        case ylv12 => (intro wz hSw; (try dsimp only at hSw); go_simp <;> with_reducible rfl)
        try simp only [Act.put, List.getElem_toArray, List.getElem_cons_zero, List.getElem_cons_succ, List.setIfInBounds_toArray, List.set_cons_zero, List.set_cons_succ]
        refine wpAnyH_take (i := 4) (v := ?_) rfl (by kernel_rfl) (by kernel_rfl) (by kernel_rfl) (fun _ _ _ h => h) (Or.inl ⟨by rfl, ?ylv13⟩) (by assumption) ?qlv13
        case ylv13 => (intro wz hSw; (try dsimp only at hSw); go_simp <;> with_reducible rfl)
        try simp only [Act.put, List.getElem_toArray, List.getElem_cons_zero, List.getElem_cons_succ, List.setIfInBounds_toArray, List.set_cons_zero, List.set_cons_succ]
        refine wpAnyH_take (i := 5) (v := ?_) rfl (by kernel_rfl) (by kernel_rfl) (by kernel_rfl) (fun _ _ _ h => h) (Or.inl ⟨by rfl, ?ylv14⟩) (by assumption) ?qlv14
        case ylv14 => (intro wz hSw; (try dsimp only at hSw); go_simp <;> with_reducible rfl)
        try simp only [Act.put, List.getElem_toArray, List.getElem_cons_zero, List.getElem_cons_succ, List.setIfInBounds_toArray, List.set_cons_zero, List.set_cons_succ]
        refine wpAnyH_ready (rs := [7]) (by kernel_rfl) (by simp) ?_
        refine AllReadyH.cons rfl (fun K hK => ?_) AllReadyH.nil
        rw [if_pos (by rfl)]
        refine wp_store_map (.tmp 17) (.tmp 69) rfl g17 (some ⟨b2, 0, none⟩) none rtu 0 rfl rfl (JT11.out.1.2.2 (g17, boxM (.pointer none) 0) (List.mem_cons_self ..)).1 ?_
        intro wn15 hst
        have JT15 := Lib.hid (JT11.out.store D17.out.1 D17.out.2 hst)
        clear hst
        refine hK.out _ _ ((cellsM (JT15.out.1.2.2 (w3.heap.size, boxM (.pointer (some ⟨w.heap.size, 0, none⟩)) rt1) (List.mem_cons_of_mem _ (List.mem_cons_of_mem _ (List.mem_cons_of_mem _ (List.mem_cons_of_mem _ (List.mem_cons_of_mem _ (List.mem_cons_of_mem _ (List.mem_cons_self ..)))))))).1).2) (fun hHeld15 => ?_)
        clear hK K
        try simp only [Act.put, List.getElem_toArray, List.getElem_cons_zero, List.getElem_cons_succ]
        refine wpAnyH_take (i := 8) (v := ?_) rfl (by kernel_rfl) (by kernel_rfl) (by kernel_rfl) (fun _ _ _ h => h) (Or.inl ⟨by rfl, ?ylv16⟩) (by assumption) ?qlv16
        case ylv16 => (intro wz hSw; (try dsimp only at hSw); go_simp <;> with_reducible rfl)
        try simp only [Act.put, List.getElem_toArray, List.getElem_cons_zero, List.getElem_cons_succ, List.setIfInBounds_toArray, List.set_cons_zero, List.set_cons_succ]
        refine wpAnyH_done (by kernel_rfl) ?_ _
        go_wp2_with fail
        go_meet
        case rel => exact ⟨g17, b2, rtu, o2, zsu, rfl, rfl, Lib.hid ⟨JT15.out, HU.out.2⟩⟩
      exact AllReadyH.nil
    refine AllReadyH.cons rfl (fun K hK => ?blv17) ?clv17
    case blv17 =>
      rw [if_pos (by rfl)]
      refine wp_alloc_map rfl ?_
      intro g17 wn17 hg17 hw17
      have D17 : Hid ((∀ p ∈ ([(w14.heap.size, boxP Pai.zero), (w12.heap.size, boxP ⟨1, 5⟩), (w9.heap.size, boxM (.pointer (some ⟨w.heap.size, 0, none⟩)) 0), (w7.heap.size, boxM (.pointer (some ⟨w.heap.size, 0, none⟩)) 0), (w5.heap.size, boxM (.pointer (some ⟨w.heap.size, 0, none⟩)) rt2), (w3.heap.size, boxM (.pointer (some ⟨w.heap.size, 0, none⟩)) rt1), (w2.heap.size, boxM (.pointer (some ⟨w.heap.size, 0, none⟩)) 0)] : List (Nat × Obj)), p.1 ≠ g17) ∧ w.heap.size ≤ g17) := Lib.hid (by rw [hg17]; exact ⟨fun p hp e => Nat.lt_irrefl _ (Nat.lt_of_lt_of_eq (heap_lt (JS0.out.2.2 p hp).1) e.symm), JS0.out.1.2.1.size⟩)
      have JS17 : Hid (PS w wn17 (.pointer (some ⟨w.heap.size, 0, none⟩)) o9 64 zs3 (.slice none 0 0) [] ((g17, boxM (.pointer none) 0) :: [(w14.heap.size, boxP Pai.zero), (w12.heap.size, boxP ⟨1, 5⟩), (w9.heap.size, boxM (.pointer (some ⟨w.heap.size, 0, none⟩)) 0), (w7.heap.size, boxM (.pointer (some ⟨w.heap.size, 0, none⟩)) 0), (w5.heap.size, boxM (.pointer (some ⟨w.heap.size, 0, none⟩)) rt2), (w3.heap.size, boxM (.pointer (some ⟨w.heap.size, 0, none⟩)) rt1), (w2.heap.size, boxM (.pointer (some ⟨w.heap.size, 0, none⟩)) 0)])) := Lib.hid (by rw [hg17, hw17]; exact JS0.out.add _)
      clear hg17 hw17
      refine hK.out _ _ ((cellsM (JS17.out.2.2 (w3.heap.size, boxM (.pointer (some ⟨w.heap.size, 0, none⟩)) rt1) (List.mem_cons_of_mem _ (List.mem_cons_of_mem _ (List.mem_cons_of_mem _ (List.mem_cons_of_mem _ (List.mem_cons_of_mem _ (List.mem_cons_of_mem _ (List.mem_cons_self ..)))))))).1).2) (fun hHeld17 => ?_)
      clear hK K
      try simp only [Act.put, List.getElem_toArray, List.getElem_cons_zero, List.getElem_cons_succ, List.setIfInBounds_toArray, List.set_cons_zero, List.set_cons_succ]
      refine wpAnyH_ready (rs := [1]) (by kernel_rfl) (by simp) ?_
      refine AllReadyH.cons rfl (fun K hK => ?_) AllReadyH.nil
      go_simp
      refine (arnew_b 1 _).mono ?_
      rintro e wn18 ⟨b2, rfl, hbe, hA, hb⟩
      have JT18 := Lib.hid (PT.new JS17.out hbe hA hb)
      clear hbe hA hb
      try go_wp2_with fail
      refine hK.out _ _ ((cellsM (JT18.out.1.2.2 (w3.heap.size, boxM (.pointer (some ⟨w.heap.size, 0, none⟩)) rt1) (List.mem_cons_of_mem _ (List.mem_cons_of_mem _ (List.mem_cons_of_mem _ (List.mem_cons_of_mem _ (List.mem_cons_of_mem _ (List.mem_cons_of_mem _ (List.mem_cons_self ..)))))))).1).2) (fun hHeld18 => ?_)
      clear hK K
      try simp only [Act.put, List.getElem_toArray, List.getElem_cons_zero, List.getElem_cons_succ, List.setIfInBounds_toArray, List.set_cons_zero, List.set_cons_succ]
      refine wpAnyH_ready (rs := [2]) (by kernel_rfl) (by simp) ?_
      refine AllReadyH.cons rfl (fun K hK => ?_) AllReadyH.nil
      go_simp
      refine (pmmove JT18.out.1.1.1 (t := T1) (root := rt1) H3.out.2.2.2 (by decide) JT18.out.2.1).mono ?_
      intro e wn19 hp
      obtain ⟨rtu, why, zsu, hs, hM⟩ := hp.step
      obtain ⟨rfl, o2, JT19⟩ := JT18.out.step hs
      have HU : Hid (why = 0 ∧ Tr zsu (mkT T1.list) rtu) := Lib.hid (match hM.out with | .inl ⟨h0, _, ht⟩ => ⟨h0, ht⟩ | .inr ⟨_, _, _, hz⟩ => absurd hz (by decide))
      obtain rfl : why = 0 := HU.out.1
      clear hp hs hM
      try go_wp2_with fail
      refine hK.out _ _ ((cellsM (JT19.out.1.2.2 (w3.heap.size, boxM (.pointer (some ⟨w.heap.size, 0, none⟩)) rt1) (List.mem_cons_of_mem _ (List.mem_cons_of_mem _ (List.mem_cons_of_mem _ (List.mem_cons_of_mem _ (List.mem_cons_of_mem _ (List.mem_cons_of_mem _ (List.mem_cons_self ..)))))))).1).2) (fun hHeld19 => ?_)
      clear hK K
      try simp only [Act.put, List.getElem_toArray, List.getElem_cons_zero, List.getElem_cons_succ, List.setIfInBounds_toArray, List.set_cons_zero, List.set_cons_succ]
      refine wpAnyH_take (i := 3) (v := ?_) rfl (by kernel_rfl) (by kernel_rfl) (by kernel_rfl) (fun _ _ _ h => h) (Or.inl ⟨by rfl, ?ylv20⟩) (by assumption) ?qlv20
      case ylv20 => (intro wz hSw; (try dsimp only at hSw); go_simp <;> with_reducible rfl)
      try simp only [Act.put, List.getElem_toArray, List.getElem_cons_zero, List.getElem_cons_succ, List.setIfInBounds_toArray, List.set_cons_zero, List.set_cons_succ]
      refine wpAnyH_take (i := 4) (v := ?_) rfl (by kernel_rfl) (by kernel_rfl) (by kernel_rfl) (fun _ _ _ h => h) (Or.inl ⟨by rfl, ?ylv21⟩) (by assumption) ?qlv21
      case ylv21 => (intro wz hSw; (try dsimp only at hSw); go_simp <;> with_reducible rfl)
      try simp only [Act.put, List.getElem_toArray, List.getElem_cons_zero, List.getElem_cons_succ, List.setIfInBounds_toArray, List.set_cons_zero, List.set_cons_succ]
      refine wpAnyH_take (i := 5) (v := ?_) rfl (by kernel_rfl) (by kernel_rfl) (by kernel_rfl) (fun _ _ _ h => h) (Or.inl ⟨by rfl, ?ylv22⟩) (by assumption) ?qlv22
      case ylv22 => (intro wz hSw; (try dsimp only at hSw); go_simp <;> with_reducible rfl)
      try simp only [Act.put, List.getElem_toArray, List.getElem_cons_zero, List.getElem_cons_succ, List.setIfInBounds_toArray, List.set_cons_zero, List.set_cons_succ]
      refine wpAnyH_ready (rs := [7]) (by kernel_rfl) (by simp) ?_
      refine AllReadyH.cons rfl (fun K hK => ?_) AllReadyH.nil
      rw [if_pos (by rfl)]
      refine wp_store_map (.tmp 17) (.tmp 69) rfl g17 (some ⟨b2, 0, none⟩) none rtu 0 rfl rfl (JT19.out.1.2.2 (g17, boxM (.pointer none) 0) (List.mem_cons_self ..)).1 ?_
      intro wn23 hst
      have JT23 := Lib.hid (JT19.out.store D17.out.1 D17.out.2 hst)
      clear hst
      refine hK.out _ _ ((cellsM (JT23.out.1.2.2 (w3.heap.size, boxM (.pointer (some ⟨w.heap.size, 0, none⟩)) rt1) (List.mem_cons_of_mem _ (List.mem_cons_of_mem _ (List.mem_cons_of_mem _ (List.mem_cons_of_mem _ (List.mem_cons_of_mem _ (List.mem_cons_of_mem _ (List.mem_cons_self ..)))))))).1).2) (fun hHeld23 => ?_)
      clear hK K
      try simp only [Act.put, List.getElem_toArray, List.getElem_cons_zero, List.getElem_cons_succ]
      refine wpAnyH_take (i := 8) (v := ?_) rfl (by kernel_rfl) (by kernel_rfl) (by kernel_rfl) (fun _ _ _ h => h) (Or.inl ⟨by rfl, ?ylv24⟩) (by assumption) ?qlv24
      case ylv24 => (intro wz hSw; (try dsimp only at hSw); go_simp <;> with_reducible rfl)
      try simp only [Act.put, List.getElem_toArray, List.getElem_cons_zero, List.getElem_cons_succ, List.setIfInBounds_toArray, List.set_cons_zero, List.set_cons_succ]
      refine wpAnyH_done (by kernel_rfl) ?_ _
      go_wp2_with fail
      go_meet
      case rel => exact ⟨g17, b2, rtu, o2, zsu, rfl, rfl, Lib.hid ⟨JT23.out, HU.out.2⟩⟩
    exact AllReadyH.nil
  case rest =>
    obtain ⟨g17, b2, rtu, o2, zsu, rfl, rfl, JC⟩ := hcut
    have HX : Hid (∀ X, Below wc.heap.size wc X → PT w X (.pointer (some ⟨w.heap.size, 0, none⟩)) o9 64 zs3 ((g17, boxM (.pointer (some ⟨b2, 0, none⟩)) rtu) :: [(w14.heap.size, boxP Pai.zero), (w12.heap.size, boxP ⟨1, 5⟩), (w9.heap.size, boxM (.pointer (some ⟨w.heap.size, 0, none⟩)) 0), (w7.heap.size, boxM (.pointer (some ⟨w.heap.size, 0, none⟩)) 0), (w5.heap.size, boxM (.pointer (some ⟨w.heap.size, 0, none⟩)) rt2), (w3.heap.size, boxM (.pointer (some ⟨w.heap.size, 0, none⟩)) rt1), (w2.heap.size, boxM (.pointer (some ⟨w.heap.size, 0, none⟩)) 0)]) b2 o2 zsu) := Lib.hid fun X hX => JC.out.1.below hX
    have HU := Lib.hid JC.out.2
    have BB0 : Hid (Below wc.heap.size wc wc) := Lib.hid (Below.refl _ _)
    have HNM : Hid (∀ root', ¬ MoveP [] T1.size (mkT T1.list) [] root') := Lib.hid fun root' h => by
      obtain ⟨⟨new, he, hn⟩, _⟩ := h
      have : T1.size = 1 := by decide
      rw [this] at hn
      have h0 : new.length = 0 := by rw [← List.nil_append new, ← he]; rfl
      omega
    have HNP : Hid (∀ root', ¬ PutP [] (3 * Tre.nil.high + 1) (Tre.ins 1 1 .nil) [] root') := Lib.hid fun root' h => by
      have := h.2.1
      simp at this
      omega
    clear JC P15 x0 x1 hg3
    obtain ⟨hgx0, x0, x1⟩ := cellsM ((HX.out wc BB0.out).1.2.2 (w3.heap.size, boxM (.pointer (some ⟨w.heap.size, 0, none⟩)) rt1) (List.mem_cons_of_mem _ (List.mem_cons_of_mem _ (List.mem_cons_of_mem _ (List.mem_cons_of_mem _ (List.mem_cons_of_mem _ (List.mem_cons_of_mem _ (List.mem_cons_self ..)))))))).1
    go_wp2_with fail
    refine (pmmove (HX.out wc BB0.out).1.1.1 (t := T1) (root := rt1) H3.out.2.2.2 (by decide) (ArV.nil _)).mono ?_
    intro e v1 hp
    obtain ⟨rfl, hb⟩ := hp.nil_put HNM.out
    have BB1 := Lib.hid (Below.trans (show Below wc.heap.size wc _ from (by first | exact BB0.out | exact BB0.out.alloc BB0.out.size _)) (hb.mono (show wc.heap.size ≤ _ from Below.size (by first | exact BB0.out | exact BB0.out.alloc BB0.out.size _))))
    clear hp hb x0 x1 hgx0
    go_wp2_with fail
    refine (pmnew_nil _).mono ?_
    rintro e v2 ⟨rfl, hb⟩
    have BB2 := Lib.hid (Below.trans (show Below wc.heap.size wc _ from (by first | exact BB1.out | exact (BB1.out.alloc BB1.out.size _))) (hb.mono (by first | exact BB1.out.size | (have := BB1.out.size; simp; omega))))
    clear hb
    go_wp2_with fail
    refine (pmput ⟨1, 1⟩ p11 (ArV.nil _) (t := .nil) (root := 0) rfl (by decide)).mono ?_
    intro e v3 hp
    obtain ⟨rfl, hb⟩ := hp.nil_put HNP.out
    clear hp
    have BB3 := Lib.hid (Below.trans (show Below wc.heap.size wc _ from (by first | exact BB2.out | exact (BB2.out.alloc BB2.out.size _))) (hb.mono (by first | exact BB2.out.size | (have := BB2.out.size; simp; omega))))
    clear hb
    go_wp2_with fail
    refine (pmput ⟨1, 1⟩ p11 (ArV.nil _) (t := .nil) (root := 0) rfl (by decide)).mono ?_
    intro e v4 hp
    obtain ⟨rfl, hb⟩ := hp.nil_put HNP.out
    clear hp
    have BB4 := Lib.hid (Below.trans (show Below wc.heap.size wc _ from (by first | exact BB3.out | exact (BB3.out.alloc BB3.out.size _))) (hb.mono (by first | exact BB3.out.size | (have := BB3.out.size; simp; omega))))
    clear hb
    have E := fun wx => (eq_pai ⟨1, 5⟩ ⟨1, 5⟩ wx).trans (by rw [Pai.beq_self])
    simp only at E
    go_upto_region 16 with fail
    simp only [List.append_eq, List.cons_append, List.nil_append]
    refine wp_region_held_drew (S := (fun X => (X.cell? ⟨g17, 0, none⟩ = some ((.pointer (some ⟨b2, 0, none⟩))) ∧ X.cell? ⟨g17, 1, none⟩ = some (.int .i64 rtu)) ∧ (X.cell? ⟨w12.heap.size, 0, none⟩ = some (.int .i64 1) ∧ X.cell? ⟨w12.heap.size, 1, none⟩ = some (.int .i64 5)) ∧ (X.cell? ⟨w9.heap.size, 0, none⟩ = some ((.pointer (some ⟨w.heap.size, 0, none⟩))) ∧ X.cell? ⟨w9.heap.size, 1, none⟩ = some (.int .i64 0)) ∧ (X.cell? ⟨w5.heap.size, 0, none⟩ = some ((.pointer (some ⟨w.heap.size, 0, none⟩))) ∧ X.cell? ⟨w5.heap.size, 1, none⟩ = some (.int .i64 rt2)) ∧ (X.cell? ⟨w3.heap.size, 0, none⟩ = some ((.pointer (some ⟨w.heap.size, 0, none⟩))) ∧ X.cell? ⟨w3.heap.size, 1, none⟩ = some (.int .i64 rt1)) ∧ (X.cell? ⟨w2.heap.size, 0, none⟩ = some ((.pointer (some ⟨w.heap.size, 0, none⟩))) ∧ X.cell? ⟨w2.heap.size, 1, none⟩ = some (.int .i64 0)))) (by as_aux_lemma => kernel_rfl) ⟨(cellsM ((HX.out _ ((BB4.out.alloc BB4.out.size _).drew)).1.2.2 (g17, boxM (.pointer (some ⟨b2, 0, none⟩)) rtu) (List.mem_cons_self ..)).1).2, (cellsP ((HX.out _ ((BB4.out.alloc BB4.out.size _).drew)).1.2.2 (w12.heap.size, boxP ⟨1, 5⟩) (List.mem_cons_of_mem _ (List.mem_cons_of_mem _ (List.mem_cons_self ..)))).1).2, (cellsM ((HX.out _ ((BB4.out.alloc BB4.out.size _).drew)).1.2.2 (w9.heap.size, boxM (.pointer (some ⟨w.heap.size, 0, none⟩)) 0) (List.mem_cons_of_mem _ (List.mem_cons_of_mem _ (List.mem_cons_of_mem _ (List.mem_cons_self ..))))).1).2, (cellsM ((HX.out _ ((BB4.out.alloc BB4.out.size _).drew)).1.2.2 (w5.heap.size, boxM (.pointer (some ⟨w.heap.size, 0, none⟩)) rt2) (List.mem_cons_of_mem _ (List.mem_cons_of_mem _ (List.mem_cons_of_mem _ (List.mem_cons_of_mem _ (List.mem_cons_of_mem _ (List.mem_cons_self ..))))))).1).2, (cellsM ((HX.out _ ((BB4.out.alloc BB4.out.size _).drew)).1.2.2 (w3.heap.size, boxM (.pointer (some ⟨w.heap.size, 0, none⟩)) rt1) (List.mem_cons_of_mem _ (List.mem_cons_of_mem _ (List.mem_cons_of_mem _ (List.mem_cons_of_mem _ (List.mem_cons_of_mem _ (List.mem_cons_of_mem _ (List.mem_cons_self ..)))))))).1).2, (cellsM ((HX.out _ ((BB4.out.alloc BB4.out.size _).drew)).1.2.2 (w2.heap.size, boxM (.pointer (some ⟨w.heap.size, 0, none⟩)) 0) (List.mem_cons_of_mem _ (List.mem_cons_of_mem _ (List.mem_cons_of_mem _ (List.mem_cons_of_mem _ (List.mem_cons_of_mem _ (List.mem_cons_of_mem _ (List.mem_cons_of_mem _ (List.mem_cons_self ..))))))))).1).2⟩ (fun hHeld0 => ?_)
    refine wpAnyH_take (i := 0) (v := ?_) rfl (by as_aux_lemma => kernel_rfl) (by as_aux_lemma => kernel_rfl) (by as_aux_lemma => kernel_rfl) (fun _ _ _ h => h) (Or.inl ⟨by as_aux_lemma => rfl, ?ylw1⟩) (by assumption) ?qlw1
    case ylw1 => (intro wz hSw; (try dsimp only at hSw); go_simp <;> with_reducible rfl)
    try simp only [Act.put, List.getElem_toArray, List.getElem_cons_zero, List.setIfInBounds_toArray, List.set_cons_zero, List.set_cons_succ]
    refine wpAnyH_take (i := 1) (v := ?_) rfl (by as_aux_lemma => kernel_rfl) (by as_aux_lemma => kernel_rfl) (by as_aux_lemma => kernel_rfl) (fun _ _ _ h => h) (Or.inl ⟨by as_aux_lemma => rfl, ?ylw2⟩) (by assumption) ?qlw2
    case ylw2 => (intro wz hSw; (try dsimp only at hSw); go_simp <;> with_reducible rfl)
    try simp only [Act.put, List.getElem_toArray, List.getElem_cons_zero, List.getElem_cons_succ, List.setIfInBounds_toArray, List.set_cons_zero, List.set_cons_succ]
    refine wpAnyH_take (i := 2) (v := ?_) rfl (by as_aux_lemma => kernel_rfl) (by as_aux_lemma => kernel_rfl) (by as_aux_lemma => kernel_rfl) (fun _ _ _ h => h) (Or.inl ⟨by as_aux_lemma => rfl, ?ylw3⟩) (by assumption) ?qlw3
    case ylw3 => (intro wz hSw; (try dsimp only at hSw); go_simp <;> with_reducible rfl)
    try simp only [Act.put, List.getElem_toArray, List.getElem_cons_zero, List.getElem_cons_succ, List.setIfInBounds_toArray, List.set_cons_zero, List.set_cons_succ]
    refine wpAnyH_take (i := 3) (v := ?_) rfl (by as_aux_lemma => kernel_rfl) (by as_aux_lemma => kernel_rfl) (by as_aux_lemma => kernel_rfl) (fun _ _ _ h => h) (Or.inl ⟨by as_aux_lemma => rfl, ?ylw4⟩) (by assumption) ?qlw4
    case ylw4 => (intro wz hSw; (try dsimp only at hSw); go_simp <;> with_reducible rfl)
    try simp only [Act.put, List.getElem_toArray, List.getElem_cons_zero, List.getElem_cons_succ, List.setIfInBounds_toArray, List.set_cons_zero, List.set_cons_succ]
    refine wpAnyH_take (i := 4) (v := ?_) rfl (by as_aux_lemma => kernel_rfl) (by as_aux_lemma => kernel_rfl) (by as_aux_lemma => kernel_rfl) (fun _ _ _ h => h) (Or.inl ⟨by as_aux_lemma => rfl, ?ylw5⟩) (by assumption) ?qlw5
    case ylw5 => (intro wz hSw; (try dsimp only at hSw); go_simp <;> with_reducible rfl)
    try simp only [Act.put, List.getElem_toArray, List.getElem_cons_zero, List.getElem_cons_succ, List.setIfInBounds_toArray, List.set_cons_zero, List.set_cons_succ]
    refine wpAnyH_take (i := 5) (v := ?_) rfl (by as_aux_lemma => kernel_rfl) (by as_aux_lemma => kernel_rfl) (by as_aux_lemma => kernel_rfl) (fun _ _ _ h => h) (Or.inl ⟨by as_aux_lemma => rfl, ?ylw6⟩) (by assumption) ?qlw6
    case ylw6 => (intro wz hSw; (try dsimp only at hSw); go_simp <;> with_reducible rfl)
    try simp only [Act.put, List.getElem_toArray, List.getElem_cons_zero, List.getElem_cons_succ, List.setIfInBounds_toArray, List.set_cons_zero, List.set_cons_succ]
    refine wpAnyH_take (i := 6) (v := ?_) rfl (by as_aux_lemma => kernel_rfl) (by as_aux_lemma => kernel_rfl) (by as_aux_lemma => kernel_rfl) (fun _ _ _ h => h) (Or.inl ⟨by as_aux_lemma => rfl, ?ylw7⟩) (by assumption) ?qlw7
    case ylw7 => (intro wz hSw; (try dsimp only at hSw); go_simp <;> with_reducible rfl)
    try simp only [Act.put, List.getElem_toArray, List.getElem_cons_zero, List.getElem_cons_succ, List.setIfInBounds_toArray, List.set_cons_zero, List.set_cons_succ]
    refine wpAnyH_take (i := 7) (v := ?_) rfl (by as_aux_lemma => kernel_rfl) (by as_aux_lemma => kernel_rfl) (by as_aux_lemma => kernel_rfl) (fun _ _ _ h => h) (Or.inl ⟨by as_aux_lemma => rfl, ?ylw8⟩) (by assumption) ?qlw8
    case ylw8 => (intro wz hSw; (try dsimp only at hSw); go_simp <;> with_reducible rfl)
    try simp only [Act.put, List.getElem_toArray, List.getElem_cons_zero, List.getElem_cons_succ, List.setIfInBounds_toArray, List.set_cons_zero, List.set_cons_succ]
    refine wpAnyH_ready (rs := [8]) (by as_aux_lemma => kernel_rfl) (by simp) ?_
    refine AllReadyH.cons rfl (fun K hK => ?_) AllReadyH.nil
    go_simp
    refine (pmlen (HX.out _ (BB4.out.alloc BB4.out.size _).drew).1.1.1 (t := T2) (root := rt2) H3.out.2.2.1).mono ?_
    rintro e u9 ⟨he, hb⟩
    rw [LS2] at he
    subst he
    have CB9 := Lib.hid (Below.trans (show Below wc.heap.size wc _ from (BB4.out.alloc BB4.out.size _).drew) (hb.mono (show wc.heap.size ≤ _ from Below.size (BB4.out.alloc BB4.out.size _).drew)))
    clear hb
    refine hK.out _ _ (⟨(cellsM ((HX.out _ (CB9.out)).1.2.2 (g17, boxM (.pointer (some ⟨b2, 0, none⟩)) rtu) (List.mem_cons_self ..)).1).2, (cellsP ((HX.out _ (CB9.out)).1.2.2 (w12.heap.size, boxP ⟨1, 5⟩) (List.mem_cons_of_mem _ (List.mem_cons_of_mem _ (List.mem_cons_self ..)))).1).2, (cellsM ((HX.out _ (CB9.out)).1.2.2 (w9.heap.size, boxM (.pointer (some ⟨w.heap.size, 0, none⟩)) 0) (List.mem_cons_of_mem _ (List.mem_cons_of_mem _ (List.mem_cons_of_mem _ (List.mem_cons_self ..))))).1).2, (cellsM ((HX.out _ (CB9.out)).1.2.2 (w5.heap.size, boxM (.pointer (some ⟨w.heap.size, 0, none⟩)) rt2) (List.mem_cons_of_mem _ (List.mem_cons_of_mem _ (List.mem_cons_of_mem _ (List.mem_cons_of_mem _ (List.mem_cons_of_mem _ (List.mem_cons_self ..))))))).1).2, (cellsM ((HX.out _ (CB9.out)).1.2.2 (w3.heap.size, boxM (.pointer (some ⟨w.heap.size, 0, none⟩)) rt1) (List.mem_cons_of_mem _ (List.mem_cons_of_mem _ (List.mem_cons_of_mem _ (List.mem_cons_of_mem _ (List.mem_cons_of_mem _ (List.mem_cons_of_mem _ (List.mem_cons_self ..)))))))).1).2, (cellsM ((HX.out _ (CB9.out)).1.2.2 (w2.heap.size, boxM (.pointer (some ⟨w.heap.size, 0, none⟩)) 0) (List.mem_cons_of_mem _ (List.mem_cons_of_mem _ (List.mem_cons_of_mem _ (List.mem_cons_of_mem _ (List.mem_cons_of_mem _ (List.mem_cons_of_mem _ (List.mem_cons_of_mem _ (List.mem_cons_self ..))))))))).1).2⟩) (fun hHeld9 => ?_)
    clear hK K
    try simp only [Act.put, List.getElem_toArray, List.getElem_cons_zero, List.getElem_cons_succ, List.setIfInBounds_toArray, List.set_cons_zero, List.set_cons_succ]
    refine wpAnyH_take (i := 9) (v := ?_) rfl (by as_aux_lemma => kernel_rfl) (by as_aux_lemma => kernel_rfl) (by as_aux_lemma => kernel_rfl) (fun _ _ _ h => h) (Or.inl ⟨by as_aux_lemma => rfl, ?ylw10⟩) (by assumption) ?qlw10
    case ylw10 => (intro wz hSw; (try dsimp only at hSw); go_simp <;> with_reducible rfl)
    try simp only [Act.put, List.getElem_toArray, List.getElem_cons_zero, List.getElem_cons_succ, List.setIfInBounds_toArray, List.set_cons_zero, List.set_cons_succ]
    refine wpAnyH_take (i := 10) (v := ?_) rfl (by as_aux_lemma => kernel_rfl) (by as_aux_lemma => kernel_rfl) (by as_aux_lemma => kernel_rfl) (fun _ _ _ h => h) (Or.inl ⟨by as_aux_lemma => rfl, ?ylw11⟩) (by assumption) ?qlw11
    case ylw11 => (intro wz hSw; (try dsimp only at hSw); go_simp <;> with_reducible rfl)
    try simp only [Act.put, List.getElem_toArray, List.getElem_cons_zero, List.getElem_cons_succ, List.setIfInBounds_toArray, List.set_cons_zero, List.set_cons_succ]
    refine wpAnyH_take (i := 11) (v := ?_) rfl (by as_aux_lemma => kernel_rfl) (by as_aux_lemma => kernel_rfl) (by as_aux_lemma => kernel_rfl) (fun _ _ _ h => h) (Or.inl ⟨by as_aux_lemma => rfl, ?ylw12⟩) (by assumption) ?qlw12
    case ylw12 => (intro wz hSw; (try dsimp only at hSw); go_simp <;> with_reducible rfl)
    try simp only [Act.put, List.getElem_toArray, List.getElem_cons_zero, List.getElem_cons_succ, List.setIfInBounds_toArray, List.set_cons_zero, List.set_cons_succ]
    refine wpAnyH_take (i := 12) (v := ?_) rfl (by as_aux_lemma => kernel_rfl) (by as_aux_lemma => kernel_rfl) (by as_aux_lemma => kernel_rfl) (fun _ _ _ h => h) (Or.inl ⟨by as_aux_lemma => rfl, ?ylw13⟩) (by assumption) ?qlw13
    case ylw13 => (intro wz hSw; (try dsimp only at hSw); go_simp <;> with_reducible rfl)
    try simp only [Act.put, List.getElem_toArray, List.getElem_cons_zero, List.getElem_cons_succ, List.setIfInBounds_toArray, List.set_cons_zero, List.set_cons_succ]
    refine wpAnyH_take (i := 13) (v := ?_) rfl (by as_aux_lemma => kernel_rfl) (by as_aux_lemma => kernel_rfl) (by as_aux_lemma => kernel_rfl) (fun _ _ _ h => h) (Or.inl ⟨by as_aux_lemma => rfl, ?ylw14⟩) (by assumption) ?qlw14
    case ylw14 => (intro wz hSw; (try dsimp only at hSw); go_simp <;> with_reducible rfl)
    try simp only [Act.put, List.getElem_toArray, List.getElem_cons_zero, List.getElem_cons_succ, List.setIfInBounds_toArray, List.set_cons_zero, List.set_cons_succ]
    refine wpAnyH_take (i := 14) (v := ?_) rfl (by as_aux_lemma => kernel_rfl) (by as_aux_lemma => kernel_rfl) (by as_aux_lemma => kernel_rfl) (fun _ _ _ h => h) (Or.inl ⟨by as_aux_lemma => rfl, ?ylw15⟩) (by assumption) ?qlw15
    case ylw15 => (intro wz hSw; (try dsimp only at hSw); go_simp <;> with_reducible rfl)
    try simp only [Act.put, List.getElem_toArray, List.getElem_cons_zero, List.getElem_cons_succ, List.setIfInBounds_toArray, List.set_cons_zero, List.set_cons_succ]
    refine wpAnyH_take (i := 15) (v := ?_) rfl (by as_aux_lemma => kernel_rfl) (by as_aux_lemma => kernel_rfl) (by as_aux_lemma => kernel_rfl) (fun _ _ _ h => h) (Or.inl ⟨by as_aux_lemma => rfl, ?ylw16⟩) (by assumption) ?qlw16
    case ylw16 => (intro wz hSw; (try dsimp only at hSw); go_simp <;> with_reducible rfl)
    try simp only [Act.put, List.getElem_toArray, List.getElem_cons_zero, List.getElem_cons_succ, List.setIfInBounds_toArray, List.set_cons_zero, List.set_cons_succ]
    refine wpAnyH_take (i := 16) (v := ?_) rfl (by as_aux_lemma => kernel_rfl) (by as_aux_lemma => kernel_rfl) (by as_aux_lemma => kernel_rfl) (fun _ _ _ h => h) (Or.inl ⟨by as_aux_lemma => rfl, ?ylw17⟩) (by assumption) ?qlw17
    case ylw17 => (intro wz hSw; (try dsimp only at hSw); go_simp <;> with_reducible rfl)
    try simp only [Act.put, List.getElem_toArray, List.getElem_cons_zero, List.getElem_cons_succ, List.setIfInBounds_toArray, List.set_cons_zero, List.set_cons_succ]
    refine wpAnyH_take (i := 17) (v := ?_) rfl (by as_aux_lemma => kernel_rfl) (by as_aux_lemma => kernel_rfl) (by as_aux_lemma => kernel_rfl) (fun _ _ _ h => h) (Or.inl ⟨by as_aux_lemma => rfl, ?ylw18⟩) (by assumption) ?qlw18
    case ylw18 => (intro wz hSw; (try dsimp only at hSw); go_simp <;> with_reducible rfl)
    try simp only [Act.put, List.getElem_toArray, List.getElem_cons_zero, List.getElem_cons_succ, List.setIfInBounds_toArray, List.set_cons_zero, List.set_cons_succ]
    refine wpAnyH_take (i := 18) (v := ?_) rfl (by as_aux_lemma => kernel_rfl) (by as_aux_lemma => kernel_rfl) (by as_aux_lemma => kernel_rfl) (fun _ _ _ h => h) (Or.inl ⟨by as_aux_lemma => rfl, ?ylw19⟩) (by assumption) ?qlw19
    case ylw19 => (intro wz hSw; (try dsimp only at hSw); go_simp <;> with_reducible rfl)
    try simp only [Act.put, List.getElem_toArray, List.getElem_cons_zero, List.getElem_cons_succ, List.setIfInBounds_toArray, List.set_cons_zero, List.set_cons_succ]
    refine wpAnyH_take (i := 19) (v := ?_) rfl (by as_aux_lemma => kernel_rfl) (by as_aux_lemma => kernel_rfl) (by as_aux_lemma => kernel_rfl) (fun _ _ _ h => h) (Or.inl ⟨by as_aux_lemma => rfl, ?ylw20⟩) (by assumption) ?qlw20
    case ylw20 => (intro wz hSw; (try dsimp only at hSw); go_simp <;> with_reducible rfl)
    try simp only [Act.put, List.getElem_toArray, List.getElem_cons_zero, List.getElem_cons_succ, List.setIfInBounds_toArray, List.set_cons_zero, List.set_cons_succ]
    refine wpAnyH_take (i := 20) (v := ?_) rfl (by as_aux_lemma => kernel_rfl) (by as_aux_lemma => kernel_rfl) (by as_aux_lemma => kernel_rfl) (fun _ _ _ h => h) (Or.inl ⟨by as_aux_lemma => rfl, ?ylw21⟩) (by assumption) ?qlw21
    case ylw21 => (intro wz hSw; (try dsimp only at hSw); go_simp <;> with_reducible rfl)
    try simp only [Act.put, List.getElem_toArray, List.getElem_cons_zero, List.getElem_cons_succ, List.setIfInBounds_toArray, List.set_cons_zero, List.set_cons_succ]
    refine wpAnyH_ready (rs := [21]) (by as_aux_lemma => kernel_rfl) (by simp) ?_
    refine AllReadyH.cons rfl (fun K hK => ?_) AllReadyH.nil
    go_simp
    refine (pmlen (HX.out _ CB9.out).1.1.1 (t := .nil) (root := 0) rfl).mono ?_
    rintro e u22 ⟨he, hb⟩
    rw [LS0] at he
    subst he
    have CB22 := Lib.hid (Below.trans (show Below wc.heap.size wc _ from CB9.out) (hb.mono (show wc.heap.size ≤ _ from Below.size CB9.out)))
    clear hb
    refine hK.out _ _ (⟨(cellsM ((HX.out _ (CB22.out)).1.2.2 (g17, boxM (.pointer (some ⟨b2, 0, none⟩)) rtu) (List.mem_cons_self ..)).1).2, (cellsP ((HX.out _ (CB22.out)).1.2.2 (w12.heap.size, boxP ⟨1, 5⟩) (List.mem_cons_of_mem _ (List.mem_cons_of_mem _ (List.mem_cons_self ..)))).1).2, (cellsM ((HX.out _ (CB22.out)).1.2.2 (w9.heap.size, boxM (.pointer (some ⟨w.heap.size, 0, none⟩)) 0) (List.mem_cons_of_mem _ (List.mem_cons_of_mem _ (List.mem_cons_of_mem _ (List.mem_cons_self ..))))).1).2, (cellsM ((HX.out _ (CB22.out)).1.2.2 (w5.heap.size, boxM (.pointer (some ⟨w.heap.size, 0, none⟩)) rt2) (List.mem_cons_of_mem _ (List.mem_cons_of_mem _ (List.mem_cons_of_mem _ (List.mem_cons_of_mem _ (List.mem_cons_of_mem _ (List.mem_cons_self ..))))))).1).2, (cellsM ((HX.out _ (CB22.out)).1.2.2 (w3.heap.size, boxM (.pointer (some ⟨w.heap.size, 0, none⟩)) rt1) (List.mem_cons_of_mem _ (List.mem_cons_of_mem _ (List.mem_cons_of_mem _ (List.mem_cons_of_mem _ (List.mem_cons_of_mem _ (List.mem_cons_of_mem _ (List.mem_cons_self ..)))))))).1).2, (cellsM ((HX.out _ (CB22.out)).1.2.2 (w2.heap.size, boxM (.pointer (some ⟨w.heap.size, 0, none⟩)) 0) (List.mem_cons_of_mem _ (List.mem_cons_of_mem _ (List.mem_cons_of_mem _ (List.mem_cons_of_mem _ (List.mem_cons_of_mem _ (List.mem_cons_of_mem _ (List.mem_cons_of_mem _ (List.mem_cons_self ..))))))))).1).2⟩) (fun hHeld22 => ?_)
    clear hK K
    try simp only [Act.put, List.getElem_toArray, List.getElem_cons_zero, List.getElem_cons_succ, List.setIfInBounds_toArray, List.set_cons_zero, List.set_cons_succ]
    refine wpAnyH_take (i := 22) (v := ?_) rfl (by as_aux_lemma => kernel_rfl) (by as_aux_lemma => kernel_rfl) (by as_aux_lemma => kernel_rfl) (fun _ _ _ h => h) (Or.inl ⟨by as_aux_lemma => rfl, ?ylw23⟩) (by assumption) ?qlw23
    case ylw23 => (intro wz hSw; (try dsimp only at hSw); go_simp <;> with_reducible rfl)
    try simp only [Act.put, List.getElem_toArray, List.getElem_cons_zero, List.getElem_cons_succ, List.setIfInBounds_toArray, List.set_cons_zero, List.set_cons_succ]
    refine wpAnyH_take (i := 23) (v := ?_) rfl (by as_aux_lemma => kernel_rfl) (by as_aux_lemma => kernel_rfl) (by as_aux_lemma => kernel_rfl) (fun _ _ _ h => h) (Or.inl ⟨by as_aux_lemma => rfl, ?ylw24⟩) (by assumption) ?qlw24
    case ylw24 => (intro wz hSw; (try dsimp only at hSw); go_simp <;> with_reducible rfl)
    try simp only [Act.put, List.getElem_toArray, List.getElem_cons_zero, List.getElem_cons_succ, List.setIfInBounds_toArray, List.set_cons_zero, List.set_cons_succ]
    refine wpAnyH_take (i := 24) (v := ?_) rfl (by as_aux_lemma => kernel_rfl) (by as_aux_lemma => kernel_rfl) (by as_aux_lemma => kernel_rfl) (fun _ _ _ h => h) (Or.inl ⟨by as_aux_lemma => rfl, ?ylw25⟩) (by assumption) ?qlw25
    case ylw25 => (intro wz hSw; (try dsimp only at hSw); go_simp <;> with_reducible rfl)
    try simp only [Act.put, List.getElem_toArray, List.getElem_cons_zero, List.getElem_cons_succ, List.setIfInBounds_toArray, List.set_cons_zero, List.set_cons_succ]
    refine wpAnyH_take (i := 25) (v := ?_) rfl (by as_aux_lemma => kernel_rfl) (by as_aux_lemma => kernel_rfl) (by as_aux_lemma => kernel_rfl) (fun _ _ _ h => h) (Or.inl ⟨by as_aux_lemma => rfl, ?ylw26⟩) (by assumption) ?qlw26
    case ylw26 => (intro wz hSw; (try dsimp only at hSw); go_simp <;> with_reducible rfl)
    try simp only [Act.put, List.getElem_toArray, List.getElem_cons_zero, List.getElem_cons_succ, List.setIfInBounds_toArray, List.set_cons_zero, List.set_cons_succ]
    refine wpAnyH_take (i := 26) (v := ?_) rfl (by as_aux_lemma => kernel_rfl) (by as_aux_lemma => kernel_rfl) (by as_aux_lemma => kernel_rfl) (fun _ _ _ h => h) (Or.inl ⟨by as_aux_lemma => rfl, ?ylw27⟩) (by assumption) ?qlw27
    case ylw27 => (intro wz hSw; (try dsimp only at hSw); go_simp <;> with_reducible rfl)
    try simp only [Act.put, List.getElem_toArray, List.getElem_cons_zero, List.getElem_cons_succ, List.setIfInBounds_toArray, List.set_cons_zero, List.set_cons_succ]
    refine wpAnyH_take (i := 27) (v := ?_) rfl (by as_aux_lemma => kernel_rfl) (by as_aux_lemma => kernel_rfl) (by as_aux_lemma => kernel_rfl) (fun _ _ _ h => h) (Or.inl ⟨by as_aux_lemma => rfl, ?ylw28⟩) (by assumption) ?qlw28
    case ylw28 => (intro wz hSw; (try dsimp only at hSw); go_simp <;> with_reducible rfl)
    try simp only [Act.put, List.getElem_toArray, List.getElem_cons_zero, List.getElem_cons_succ, List.setIfInBounds_toArray, List.set_cons_zero, List.set_cons_succ]
    refine wpAnyH_take (i := 28) (v := ?_) rfl (by as_aux_lemma => kernel_rfl) (by as_aux_lemma => kernel_rfl) (by as_aux_lemma => kernel_rfl) (fun _ _ _ h => h) (Or.inl ⟨by as_aux_lemma => rfl, ?ylw29⟩) (by assumption) ?qlw29
    case ylw29 => (intro wz hSw; (try dsimp only at hSw); go_simp <;> with_reducible rfl)
    try simp only [Act.put, List.getElem_toArray, List.getElem_cons_zero, List.getElem_cons_succ, List.setIfInBounds_toArray, List.set_cons_zero, List.set_cons_succ]
    refine wpAnyH_take (i := 29) (v := ?_) rfl (by as_aux_lemma => kernel_rfl) (by as_aux_lemma => kernel_rfl) (by as_aux_lemma => kernel_rfl) (fun _ _ _ h => h) (Or.inl ⟨by as_aux_lemma => rfl, ?ylw30⟩) (by assumption) ?qlw30
    case ylw30 => (intro wz hSw; (try dsimp only at hSw); go_simp <;> with_reducible rfl)
    try simp only [Act.put, List.getElem_toArray, List.getElem_cons_zero, List.getElem_cons_succ, List.setIfInBounds_toArray, List.set_cons_zero, List.set_cons_succ]
    refine wpAnyH_take (i := 30) (v := ?_) rfl (by as_aux_lemma => kernel_rfl) (by as_aux_lemma => kernel_rfl) (by as_aux_lemma => kernel_rfl) (fun _ _ _ h => h) (Or.inl ⟨by as_aux_lemma => rfl, ?ylw31⟩) (by assumption) ?qlw31
    case ylw31 => (intro wz hSw; (try dsimp only at hSw); go_simp <;> with_reducible rfl)
    try simp only [Act.put, List.getElem_toArray, List.getElem_cons_zero, List.getElem_cons_succ, List.setIfInBounds_toArray, List.set_cons_zero, List.set_cons_succ]
    refine wpAnyH_take (i := 31) (v := ?_) rfl (by as_aux_lemma => kernel_rfl) (by as_aux_lemma => kernel_rfl) (by as_aux_lemma => kernel_rfl) (fun _ _ _ h => h) (Or.inl ⟨by as_aux_lemma => rfl, ?ylw32⟩) (by assumption) ?qlw32
    case ylw32 => (intro wz hSw; (try dsimp only at hSw); go_simp <;> with_reducible rfl)
    try simp only [Act.put, List.getElem_toArray, List.getElem_cons_zero, List.getElem_cons_succ, List.setIfInBounds_toArray, List.set_cons_zero, List.set_cons_succ]
    refine wpAnyH_take (i := 32) (v := ?_) rfl (by as_aux_lemma => kernel_rfl) (by as_aux_lemma => kernel_rfl) (by as_aux_lemma => kernel_rfl) (fun _ _ _ h => h) (Or.inl ⟨by as_aux_lemma => rfl, ?ylw33⟩) (by assumption) ?qlw33
    case ylw33 => (intro wz hSw; (try dsimp only at hSw); go_simp <;> with_reducible rfl)
    try simp only [Act.put, List.getElem_toArray, List.getElem_cons_zero, List.getElem_cons_succ, List.setIfInBounds_toArray, List.set_cons_zero, List.set_cons_succ]
    refine wpAnyH_take (i := 33) (v := ?_) rfl (by as_aux_lemma => kernel_rfl) (by as_aux_lemma => kernel_rfl) (by as_aux_lemma => kernel_rfl) (fun _ _ _ h => h) (Or.inl ⟨by as_aux_lemma => rfl, ?ylw34⟩) (by assumption) ?qlw34
    case ylw34 => (intro wz hSw; (try dsimp only at hSw); go_simp <;> with_reducible rfl)
    try simp only [Act.put, List.getElem_toArray, List.getElem_cons_zero, List.getElem_cons_succ, List.setIfInBounds_toArray, List.set_cons_zero, List.set_cons_succ]
    refine wpAnyH_take (i := 34) (v := ?_) rfl (by as_aux_lemma => kernel_rfl) (by as_aux_lemma => kernel_rfl) (by as_aux_lemma => kernel_rfl) (fun _ _ _ h => h) (Or.inl ⟨by as_aux_lemma => rfl, ?ylw35⟩) (by assumption) ?qlw35
    case ylw35 => (intro wz hSw; (try dsimp only at hSw); first | exact E wz | (go_simp <;> with_reducible rfl))
    try simp only [Act.put, List.getElem_toArray, List.getElem_cons_zero, List.getElem_cons_succ, List.setIfInBounds_toArray, List.set_cons_zero, List.set_cons_succ]
    refine wpAnyH_take (i := 35) (v := ?_) rfl (by as_aux_lemma => kernel_rfl) (by as_aux_lemma => kernel_rfl) (by as_aux_lemma => kernel_rfl) (fun _ _ _ h => h) (Or.inl ⟨by as_aux_lemma => rfl, ?ylw36⟩) (by assumption) ?qlw36
    case ylw36 => (intro wz hSw; (try dsimp only at hSw); go_simp <;> with_reducible rfl)
    try simp only [Act.put, List.getElem_toArray, List.getElem_cons_zero, List.getElem_cons_succ, List.setIfInBounds_toArray, List.set_cons_zero, List.set_cons_succ]
    refine wpAnyH_take (i := 36) (v := ?_) rfl (by as_aux_lemma => kernel_rfl) (by as_aux_lemma => kernel_rfl) (by as_aux_lemma => kernel_rfl) (fun _ _ _ h => h) (Or.inl ⟨by as_aux_lemma => rfl, ?ylw37⟩) (by assumption) ?qlw37
    case ylw37 => (intro wz hSw; (try dsimp only at hSw); go_simp <;> with_reducible rfl)
    try simp only [Act.put, List.getElem_toArray, List.getElem_cons_zero, List.getElem_cons_succ, List.setIfInBounds_toArray, List.set_cons_zero, List.set_cons_succ]
    refine wpAnyH_take (i := 37) (v := ?_) rfl (by as_aux_lemma => kernel_rfl) (by as_aux_lemma => kernel_rfl) (by as_aux_lemma => kernel_rfl) (fun _ _ _ h => h) (Or.inl ⟨by as_aux_lemma => rfl, ?ylw38⟩) (by assumption) ?qlw38
    case ylw38 => (intro wz hSw; (try dsimp only at hSw); go_simp <;> with_reducible rfl)
    try simp only [Act.put, List.getElem_toArray, List.getElem_cons_zero, List.getElem_cons_succ, List.setIfInBounds_toArray, List.set_cons_zero, List.set_cons_succ]
    refine wpAnyH_take (i := 38) (v := ?_) rfl (by as_aux_lemma => kernel_rfl) (by as_aux_lemma => kernel_rfl) (by as_aux_lemma => kernel_rfl) (fun _ _ _ h => h) (Or.inl ⟨by as_aux_lemma => rfl, ?ylw39⟩) (by assumption) ?qlw39
    case ylw39 => (intro wz hSw; (try dsimp only at hSw); go_simp <;> with_reducible rfl)
    try simp only [Act.put, List.getElem_toArray, List.getElem_cons_zero, List.getElem_cons_succ, List.setIfInBounds_toArray, List.set_cons_zero, List.set_cons_succ]
    refine wpAnyH_take (i := 39) (v := ?_) rfl (by as_aux_lemma => kernel_rfl) (by as_aux_lemma => kernel_rfl) (by as_aux_lemma => kernel_rfl) (fun _ _ _ h => h) (Or.inl ⟨by as_aux_lemma => rfl, ?ylw40⟩) (by assumption) ?qlw40
    case ylw40 => (intro wz hSw; (try dsimp only at hSw); go_simp <;> with_reducible rfl)
    try simp only [Act.put, List.getElem_toArray, List.getElem_cons_zero, List.getElem_cons_succ, List.setIfInBounds_toArray, List.set_cons_zero, List.set_cons_succ]
    refine wpAnyH_take (i := 40) (v := ?_) rfl (by as_aux_lemma => kernel_rfl) (by as_aux_lemma => kernel_rfl) (by as_aux_lemma => kernel_rfl) (fun _ _ _ h => h) (Or.inl ⟨by as_aux_lemma => rfl, ?ylw41⟩) (by assumption) ?qlw41
    case ylw41 => (intro wz hSw; (try dsimp only at hSw); go_simp <;> with_reducible rfl)
    try simp only [Act.put, List.getElem_toArray, List.getElem_cons_zero, List.getElem_cons_succ, List.setIfInBounds_toArray, List.set_cons_zero, List.set_cons_succ]
    refine wpAnyH_take (i := 41) (v := ?_) rfl (by as_aux_lemma => kernel_rfl) (by as_aux_lemma => kernel_rfl) (by as_aux_lemma => kernel_rfl) (fun _ _ _ h => h) (Or.inl ⟨by as_aux_lemma => rfl, ?ylw42⟩) (by assumption) ?qlw42
    case ylw42 => (intro wz hSw; (try dsimp only at hSw); go_simp <;> with_reducible rfl)
    try simp only [Act.put, List.getElem_toArray, List.getElem_cons_zero, List.getElem_cons_succ, List.setIfInBounds_toArray, List.set_cons_zero, List.set_cons_succ]
    refine wpAnyH_take (i := 42) (v := ?_) rfl (by as_aux_lemma => kernel_rfl) (by as_aux_lemma => kernel_rfl) (by as_aux_lemma => kernel_rfl) (fun _ _ _ h => h) (Or.inl ⟨by as_aux_lemma => rfl, ?ylw43⟩) (by assumption) ?qlw43
    case ylw43 => (intro wz hSw; (try dsimp only at hSw); go_simp <;> with_reducible rfl)
    try simp only [Act.put, List.getElem_toArray, List.getElem_cons_zero, List.getElem_cons_succ, List.setIfInBounds_toArray, List.set_cons_zero, List.set_cons_succ]
    refine wpAnyH_take (i := 43) (v := ?_) rfl (by as_aux_lemma => kernel_rfl) (by as_aux_lemma => kernel_rfl) (by as_aux_lemma => kernel_rfl) (fun _ _ _ h => h) (Or.inl ⟨by as_aux_lemma => rfl, ?ylw44⟩) (by assumption) ?qlw44
    case ylw44 => (intro wz hSw; (try dsimp only at hSw); go_simp <;> with_reducible rfl)
    try simp only [Act.put, List.getElem_toArray, List.getElem_cons_zero, List.getElem_cons_succ, List.setIfInBounds_toArray, List.set_cons_zero, List.set_cons_succ]
    refine wpAnyH_take (i := 44) (v := ?_) rfl (by as_aux_lemma => kernel_rfl) (by as_aux_lemma => kernel_rfl) (by as_aux_lemma => kernel_rfl) (fun _ _ _ h => h) (Or.inl ⟨by as_aux_lemma => rfl, ?ylw45⟩) (by assumption) ?qlw45
    case ylw45 => (intro wz hSw; (try dsimp only at hSw); go_simp <;> with_reducible rfl)
    try simp only [Act.put, List.getElem_toArray, List.getElem_cons_zero, List.getElem_cons_succ, List.setIfInBounds_toArray, List.set_cons_zero, List.set_cons_succ]
    refine wpAnyH_ready (rs := [45]) (by as_aux_lemma => kernel_rfl) (by simp) ?_
    refine AllReadyH.cons rfl (fun K hK => ?_) AllReadyH.nil
    go_simp
    refine (pmrank 1 (HX.out _ CB22.out).1.1.1 (t := T1) (root := rt1) H3.out.2.2.2 (by decide)).mono ?_
    rintro e u46 ⟨he, hb⟩
    rw [LR1] at he
    subst he
    have CB46 := Lib.hid (Below.trans (show Below wc.heap.size wc _ from CB22.out) (hb.mono (show wc.heap.size ≤ _ from Below.size CB22.out)))
    clear hb
    refine hK.out _ _ (⟨(cellsM ((HX.out _ (CB46.out)).1.2.2 (g17, boxM (.pointer (some ⟨b2, 0, none⟩)) rtu) (List.mem_cons_self ..)).1).2, (cellsP ((HX.out _ (CB46.out)).1.2.2 (w12.heap.size, boxP ⟨1, 5⟩) (List.mem_cons_of_mem _ (List.mem_cons_of_mem _ (List.mem_cons_self ..)))).1).2, (cellsM ((HX.out _ (CB46.out)).1.2.2 (w9.heap.size, boxM (.pointer (some ⟨w.heap.size, 0, none⟩)) 0) (List.mem_cons_of_mem _ (List.mem_cons_of_mem _ (List.mem_cons_of_mem _ (List.mem_cons_self ..))))).1).2, (cellsM ((HX.out _ (CB46.out)).1.2.2 (w5.heap.size, boxM (.pointer (some ⟨w.heap.size, 0, none⟩)) rt2) (List.mem_cons_of_mem _ (List.mem_cons_of_mem _ (List.mem_cons_of_mem _ (List.mem_cons_of_mem _ (List.mem_cons_of_mem _ (List.mem_cons_self ..))))))).1).2, (cellsM ((HX.out _ (CB46.out)).1.2.2 (w3.heap.size, boxM (.pointer (some ⟨w.heap.size, 0, none⟩)) rt1) (List.mem_cons_of_mem _ (List.mem_cons_of_mem _ (List.mem_cons_of_mem _ (List.mem_cons_of_mem _ (List.mem_cons_of_mem _ (List.mem_cons_of_mem _ (List.mem_cons_self ..)))))))).1).2, (cellsM ((HX.out _ (CB46.out)).1.2.2 (w2.heap.size, boxM (.pointer (some ⟨w.heap.size, 0, none⟩)) 0) (List.mem_cons_of_mem _ (List.mem_cons_of_mem _ (List.mem_cons_of_mem _ (List.mem_cons_of_mem _ (List.mem_cons_of_mem _ (List.mem_cons_of_mem _ (List.mem_cons_of_mem _ (List.mem_cons_self ..))))))))).1).2⟩) (fun hHeld46 => ?_)
    clear hK K
    try simp only [Act.put, List.getElem_toArray, List.getElem_cons_zero, List.getElem_cons_succ, List.setIfInBounds_toArray, List.set_cons_zero, List.set_cons_succ]
    refine wpAnyH_take (i := 46) (v := ?_) rfl (by as_aux_lemma => kernel_rfl) (by as_aux_lemma => kernel_rfl) (by as_aux_lemma => kernel_rfl) (fun _ _ _ h => h) (Or.inl ⟨by as_aux_lemma => rfl, ?ylw47⟩) (by assumption) ?qlw47
    case ylw47 => (intro wz hSw; (try dsimp only at hSw); go_simp <;> with_reducible rfl)
    try simp only [Act.put, List.getElem_toArray, List.getElem_cons_zero, List.getElem_cons_succ, List.setIfInBounds_toArray, List.set_cons_zero, List.set_cons_succ]
    refine wpAnyH_take (i := 47) (v := ?_) rfl (by as_aux_lemma => kernel_rfl) (by as_aux_lemma => kernel_rfl) (by as_aux_lemma => kernel_rfl) (fun _ _ _ h => h) (Or.inl ⟨by as_aux_lemma => rfl, ?ylw48⟩) (by assumption) ?qlw48
    case ylw48 => (intro wz hSw; (try dsimp only at hSw); go_simp <;> with_reducible rfl)
    try simp only [Act.put, List.getElem_toArray, List.getElem_cons_zero, List.getElem_cons_succ, List.setIfInBounds_toArray, List.set_cons_zero, List.set_cons_succ]
    refine wpAnyH_take (i := 48) (v := ?_) rfl (by as_aux_lemma => kernel_rfl) (by as_aux_lemma => kernel_rfl) (by as_aux_lemma => kernel_rfl) (fun _ _ _ h => h) (Or.inl ⟨by as_aux_lemma => rfl, ?ylw49⟩) (by assumption) ?qlw49
    case ylw49 => (intro wz hSw; (try dsimp only at hSw); go_simp <;> with_reducible rfl)
    try simp only [Act.put, List.getElem_toArray, List.getElem_cons_zero, List.getElem_cons_succ, List.setIfInBounds_toArray, List.set_cons_zero, List.set_cons_succ]
    refine wpAnyH_take (i := 49) (v := ?_) rfl (by as_aux_lemma => kernel_rfl) (by as_aux_lemma => kernel_rfl) (by as_aux_lemma => kernel_rfl) (fun _ _ _ h => h) (Or.inl ⟨by as_aux_lemma => rfl, ?ylw50⟩) (by assumption) ?qlw50
    case ylw50 => (intro wz hSw; (try dsimp only at hSw); go_simp <;> with_reducible rfl)
    try simp only [Act.put, List.getElem_toArray, List.getElem_cons_zero, List.getElem_cons_succ, List.setIfInBounds_toArray, List.set_cons_zero, List.set_cons_succ]
    refine wpAnyH_ready (rs := [50]) (by as_aux_lemma => kernel_rfl) (by simp) ?_
    refine AllReadyH.cons rfl (fun K hK => ?_) AllReadyH.nil
    go_simp
    refine (pmrank 2 (HX.out _ CB46.out).1.1.1 (t := T1) (root := rt1) H3.out.2.2.2 (by decide)).mono ?_
    rintro e u51 ⟨he, hb⟩
    rw [LR2] at he
    subst he
    have CB51 := Lib.hid (Below.trans (show Below wc.heap.size wc _ from CB46.out) (hb.mono (show wc.heap.size ≤ _ from Below.size CB46.out)))
    clear hb
    refine hK.out _ _ (⟨(cellsM ((HX.out _ (CB51.out)).1.2.2 (g17, boxM (.pointer (some ⟨b2, 0, none⟩)) rtu) (List.mem_cons_self ..)).1).2, (cellsP ((HX.out _ (CB51.out)).1.2.2 (w12.heap.size, boxP ⟨1, 5⟩) (List.mem_cons_of_mem _ (List.mem_cons_of_mem _ (List.mem_cons_self ..)))).1).2, (cellsM ((HX.out _ (CB51.out)).1.2.2 (w9.heap.size, boxM (.pointer (some ⟨w.heap.size, 0, none⟩)) 0) (List.mem_cons_of_mem _ (List.mem_cons_of_mem _ (List.mem_cons_of_mem _ (List.mem_cons_self ..))))).1).2, (cellsM ((HX.out _ (CB51.out)).1.2.2 (w5.heap.size, boxM (.pointer (some ⟨w.heap.size, 0, none⟩)) rt2) (List.mem_cons_of_mem _ (List.mem_cons_of_mem _ (List.mem_cons_of_mem _ (List.mem_cons_of_mem _ (List.mem_cons_of_mem _ (List.mem_cons_self ..))))))).1).2, (cellsM ((HX.out _ (CB51.out)).1.2.2 (w3.heap.size, boxM (.pointer (some ⟨w.heap.size, 0, none⟩)) rt1) (List.mem_cons_of_mem _ (List.mem_cons_of_mem _ (List.mem_cons_of_mem _ (List.mem_cons_of_mem _ (List.mem_cons_of_mem _ (List.mem_cons_of_mem _ (List.mem_cons_self ..)))))))).1).2, (cellsM ((HX.out _ (CB51.out)).1.2.2 (w2.heap.size, boxM (.pointer (some ⟨w.heap.size, 0, none⟩)) 0) (List.mem_cons_of_mem _ (List.mem_cons_of_mem _ (List.mem_cons_of_mem _ (List.mem_cons_of_mem _ (List.mem_cons_of_mem _ (List.mem_cons_of_mem _ (List.mem_cons_of_mem _ (List.mem_cons_self ..))))))))).1).2⟩) (fun hHeld51 => ?_)
    clear hK K
    try simp only [Act.put, List.getElem_toArray, List.getElem_cons_zero, List.getElem_cons_succ, List.setIfInBounds_toArray, List.set_cons_zero, List.set_cons_succ]
    refine wpAnyH_take (i := 51) (v := ?_) rfl (by as_aux_lemma => kernel_rfl) (by as_aux_lemma => kernel_rfl) (by as_aux_lemma => kernel_rfl) (fun _ _ _ h => h) (Or.inl ⟨by as_aux_lemma => rfl, ?ylw52⟩) (by assumption) ?qlw52
    case ylw52 => (intro wz hSw; (try dsimp only at hSw); go_simp <;> with_reducible rfl)
    try simp only [Act.put, List.getElem_toArray, List.getElem_cons_zero, List.getElem_cons_succ, List.setIfInBounds_toArray, List.set_cons_zero, List.set_cons_succ]
    refine wpAnyH_take (i := 52) (v := ?_) rfl (by as_aux_lemma => kernel_rfl) (by as_aux_lemma => kernel_rfl) (by as_aux_lemma => kernel_rfl) (fun _ _ _ h => h) (Or.inl ⟨by as_aux_lemma => rfl, ?ylw53⟩) (by assumption) ?qlw53
    case ylw53 => (intro wz hSw; (try dsimp only at hSw); go_simp <;> with_reducible rfl)
    try simp only [Act.put, List.getElem_toArray, List.getElem_cons_zero, List.getElem_cons_succ, List.setIfInBounds_toArray, List.set_cons_zero, List.set_cons_succ]
    refine wpAnyH_take (i := 53) (v := ?_) rfl (by as_aux_lemma => kernel_rfl) (by as_aux_lemma => kernel_rfl) (by as_aux_lemma => kernel_rfl) (fun _ _ _ h => h) (Or.inl ⟨by as_aux_lemma => rfl, ?ylw54⟩) (by assumption) ?qlw54
    case ylw54 => (intro wz hSw; (try dsimp only at hSw); go_simp <;> with_reducible rfl)
    try simp only [Act.put, List.getElem_toArray, List.getElem_cons_zero, List.getElem_cons_succ, List.setIfInBounds_toArray, List.set_cons_zero, List.set_cons_succ]
    refine wpAnyH_take (i := 54) (v := ?_) rfl (by as_aux_lemma => kernel_rfl) (by as_aux_lemma => kernel_rfl) (by as_aux_lemma => kernel_rfl) (fun _ _ _ h => h) (Or.inl ⟨by as_aux_lemma => rfl, ?ylw55⟩) (by assumption) ?qlw55
    case ylw55 => (intro wz hSw; (try dsimp only at hSw); go_simp <;> with_reducible rfl)
    try simp only [Act.put, List.getElem_toArray, List.getElem_cons_zero, List.getElem_cons_succ, List.setIfInBounds_toArray, List.set_cons_zero, List.set_cons_succ]
    refine wpAnyH_ready (rs := [55]) (by as_aux_lemma => kernel_rfl) (by simp) ?_
    refine AllReadyH.cons rfl (fun K hK => ?_) AllReadyH.nil
    go_simp
    refine (pmhigh (HX.out _ CB51.out).1.1.1 (t := T1) (root := rt1) H3.out.2.2.2).mono ?_
    rintro e u56 ⟨he, hb⟩
    rw [LH1] at he
    subst he
    have CB56 := Lib.hid (Below.trans (show Below wc.heap.size wc _ from CB51.out) (hb.mono (show wc.heap.size ≤ _ from Below.size CB51.out)))
    clear hb
    refine hK.out _ _ (⟨(cellsM ((HX.out _ (CB56.out)).1.2.2 (g17, boxM (.pointer (some ⟨b2, 0, none⟩)) rtu) (List.mem_cons_self ..)).1).2, (cellsP ((HX.out _ (CB56.out)).1.2.2 (w12.heap.size, boxP ⟨1, 5⟩) (List.mem_cons_of_mem _ (List.mem_cons_of_mem _ (List.mem_cons_self ..)))).1).2, (cellsM ((HX.out _ (CB56.out)).1.2.2 (w9.heap.size, boxM (.pointer (some ⟨w.heap.size, 0, none⟩)) 0) (List.mem_cons_of_mem _ (List.mem_cons_of_mem _ (List.mem_cons_of_mem _ (List.mem_cons_self ..))))).1).2, (cellsM ((HX.out _ (CB56.out)).1.2.2 (w5.heap.size, boxM (.pointer (some ⟨w.heap.size, 0, none⟩)) rt2) (List.mem_cons_of_mem _ (List.mem_cons_of_mem _ (List.mem_cons_of_mem _ (List.mem_cons_of_mem _ (List.mem_cons_of_mem _ (List.mem_cons_self ..))))))).1).2, (cellsM ((HX.out _ (CB56.out)).1.2.2 (w3.heap.size, boxM (.pointer (some ⟨w.heap.size, 0, none⟩)) rt1) (List.mem_cons_of_mem _ (List.mem_cons_of_mem _ (List.mem_cons_of_mem _ (List.mem_cons_of_mem _ (List.mem_cons_of_mem _ (List.mem_cons_of_mem _ (List.mem_cons_self ..)))))))).1).2, (cellsM ((HX.out _ (CB56.out)).1.2.2 (w2.heap.size, boxM (.pointer (some ⟨w.heap.size, 0, none⟩)) 0) (List.mem_cons_of_mem _ (List.mem_cons_of_mem _ (List.mem_cons_of_mem _ (List.mem_cons_of_mem _ (List.mem_cons_of_mem _ (List.mem_cons_of_mem _ (List.mem_cons_of_mem _ (List.mem_cons_self ..))))))))).1).2⟩) (fun hHeld56 => ?_)
    clear hK K
    try simp only [Act.put, List.getElem_toArray, List.getElem_cons_zero, List.getElem_cons_succ, List.setIfInBounds_toArray, List.set_cons_zero, List.set_cons_succ]
    refine wpAnyH_take (i := 56) (v := ?_) rfl (by as_aux_lemma => kernel_rfl) (by as_aux_lemma => kernel_rfl) (by as_aux_lemma => kernel_rfl) (fun _ _ _ h => h) (Or.inl ⟨by as_aux_lemma => rfl, ?ylw57⟩) (by assumption) ?qlw57
    case ylw57 => (intro wz hSw; (try dsimp only at hSw); go_simp <;> with_reducible rfl)
    try simp only [Act.put, List.getElem_toArray, List.getElem_cons_zero, List.getElem_cons_succ, List.setIfInBounds_toArray, List.set_cons_zero, List.set_cons_succ]
    refine wpAnyH_take (i := 57) (v := ?_) rfl (by as_aux_lemma => kernel_rfl) (by as_aux_lemma => kernel_rfl) (by as_aux_lemma => kernel_rfl) (fun _ _ _ h => h) (Or.inl ⟨by as_aux_lemma => rfl, ?ylw58⟩) (by assumption) ?qlw58
    case ylw58 => (intro wz hSw; (try dsimp only at hSw); go_simp <;> with_reducible rfl)
    try simp only [Act.put, List.getElem_toArray, List.getElem_cons_zero, List.getElem_cons_succ, List.setIfInBounds_toArray, List.set_cons_zero, List.set_cons_succ]
    refine wpAnyH_take (i := 58) (v := ?_) rfl (by as_aux_lemma => kernel_rfl) (by as_aux_lemma => kernel_rfl) (by as_aux_lemma => kernel_rfl) (fun _ _ _ h => h) (Or.inl ⟨by as_aux_lemma => rfl, ?ylw59⟩) (by assumption) ?qlw59
    case ylw59 => (intro wz hSw; (try dsimp only at hSw); go_simp <;> with_reducible rfl)
    try simp only [Act.put, List.getElem_toArray, List.getElem_cons_zero, List.getElem_cons_succ, List.setIfInBounds_toArray, List.set_cons_zero, List.set_cons_succ]
    refine wpAnyH_take (i := 59) (v := ?_) rfl (by as_aux_lemma => kernel_rfl) (by as_aux_lemma => kernel_rfl) (by as_aux_lemma => kernel_rfl) (fun _ _ _ h => h) (Or.inl ⟨by as_aux_lemma => rfl, ?ylw60⟩) (by assumption) ?qlw60
    case ylw60 => (intro wz hSw; (try dsimp only at hSw); go_simp <;> with_reducible rfl)
    try simp only [Act.put, List.getElem_toArray, List.getElem_cons_zero, List.getElem_cons_succ, List.setIfInBounds_toArray, List.set_cons_zero, List.set_cons_succ]
    refine wpAnyH_ready (rs := [60]) (by as_aux_lemma => kernel_rfl) (by simp) ?_
    refine AllReadyH.cons rfl (fun K hK => ?_) AllReadyH.nil
    go_simp
    refine (pmhigh (HX.out _ CB56.out).1.1.1 (t := .nil) (root := 0) rfl).mono ?_
    rintro e u61 ⟨he, hb⟩
    rw [LH0] at he
    subst he
    have CB61 := Lib.hid (Below.trans (show Below wc.heap.size wc _ from CB56.out) (hb.mono (show wc.heap.size ≤ _ from Below.size CB56.out)))
    clear hb
    refine hK.out _ _ (⟨(cellsM ((HX.out _ (CB61.out)).1.2.2 (g17, boxM (.pointer (some ⟨b2, 0, none⟩)) rtu) (List.mem_cons_self ..)).1).2, (cellsP ((HX.out _ (CB61.out)).1.2.2 (w12.heap.size, boxP ⟨1, 5⟩) (List.mem_cons_of_mem _ (List.mem_cons_of_mem _ (List.mem_cons_self ..)))).1).2, (cellsM ((HX.out _ (CB61.out)).1.2.2 (w9.heap.size, boxM (.pointer (some ⟨w.heap.size, 0, none⟩)) 0) (List.mem_cons_of_mem _ (List.mem_cons_of_mem _ (List.mem_cons_of_mem _ (List.mem_cons_self ..))))).1).2, (cellsM ((HX.out _ (CB61.out)).1.2.2 (w5.heap.size, boxM (.pointer (some ⟨w.heap.size, 0, none⟩)) rt2) (List.mem_cons_of_mem _ (List.mem_cons_of_mem _ (List.mem_cons_of_mem _ (List.mem_cons_of_mem _ (List.mem_cons_of_mem _ (List.mem_cons_self ..))))))).1).2, (cellsM ((HX.out _ (CB61.out)).1.2.2 (w3.heap.size, boxM (.pointer (some ⟨w.heap.size, 0, none⟩)) rt1) (List.mem_cons_of_mem _ (List.mem_cons_of_mem _ (List.mem_cons_of_mem _ (List.mem_cons_of_mem _ (List.mem_cons_of_mem _ (List.mem_cons_of_mem _ (List.mem_cons_self ..)))))))).1).2, (cellsM ((HX.out _ (CB61.out)).1.2.2 (w2.heap.size, boxM (.pointer (some ⟨w.heap.size, 0, none⟩)) 0) (List.mem_cons_of_mem _ (List.mem_cons_of_mem _ (List.mem_cons_of_mem _ (List.mem_cons_of_mem _ (List.mem_cons_of_mem _ (List.mem_cons_of_mem _ (List.mem_cons_of_mem _ (List.mem_cons_self ..))))))))).1).2⟩) (fun hHeld61 => ?_)
    clear hK K
    try simp only [Act.put, List.getElem_toArray, List.getElem_cons_zero, List.getElem_cons_succ, List.setIfInBounds_toArray, List.set_cons_zero, List.set_cons_succ]
    refine wpAnyH_take (i := 61) (v := ?_) rfl (by as_aux_lemma => kernel_rfl) (by as_aux_lemma => kernel_rfl) (by as_aux_lemma => kernel_rfl) (fun _ _ _ h => h) (Or.inl ⟨by as_aux_lemma => rfl, ?ylw62⟩) (by assumption) ?qlw62
    case ylw62 => (intro wz hSw; (try dsimp only at hSw); go_simp <;> with_reducible rfl)
    try simp only [Act.put, List.getElem_toArray, List.getElem_cons_zero, List.getElem_cons_succ, List.setIfInBounds_toArray, List.set_cons_zero, List.set_cons_succ]
    refine wpAnyH_take (i := 62) (v := ?_) rfl (by as_aux_lemma => kernel_rfl) (by as_aux_lemma => kernel_rfl) (by as_aux_lemma => kernel_rfl) (fun _ _ _ h => h) (Or.inl ⟨by as_aux_lemma => rfl, ?ylw63⟩) (by assumption) ?qlw63
    case ylw63 => (intro wz hSw; (try dsimp only at hSw); go_simp <;> with_reducible rfl)
    try simp only [Act.put, List.getElem_toArray, List.getElem_cons_zero, List.getElem_cons_succ, List.setIfInBounds_toArray, List.set_cons_zero, List.set_cons_succ]
    refine wpAnyH_take (i := 63) (v := ?_) rfl (by as_aux_lemma => kernel_rfl) (by as_aux_lemma => kernel_rfl) (by as_aux_lemma => kernel_rfl) (fun _ _ _ h => h) (Or.inl ⟨by as_aux_lemma => rfl, ?ylw64⟩) (by assumption) ?qlw64
    case ylw64 => (intro wz hSw; (try dsimp only at hSw); go_simp <;> with_reducible rfl)
    try simp only [Act.put, List.getElem_toArray, List.getElem_cons_zero, List.getElem_cons_succ, List.setIfInBounds_toArray, List.set_cons_zero, List.set_cons_succ]
    refine wpAnyH_take (i := 64) (v := ?_) rfl (by as_aux_lemma => kernel_rfl) (by as_aux_lemma => kernel_rfl) (by as_aux_lemma => kernel_rfl) (fun _ _ _ h => h) (Or.inl ⟨by as_aux_lemma => rfl, ?ylw65⟩) (by assumption) ?qlw65
    case ylw65 => (intro wz hSw; (try dsimp only at hSw); go_simp <;> with_reducible rfl)
    try simp only [Act.put, List.getElem_toArray, List.getElem_cons_zero, List.getElem_cons_succ, List.setIfInBounds_toArray, List.set_cons_zero, List.set_cons_succ]
    refine wpAnyH_ready (rs := [65]) (by as_aux_lemma => kernel_rfl) (by simp) ?_
    refine AllReadyH.cons rfl (fun K hK => ?_) AllReadyH.nil
    go_simp
    refine (pmlen (HX.out _ CB61.out).1.1.1 (t := .nil) (root := 0) rfl).mono ?_
    rintro e u66 ⟨he, hb⟩
    rw [LS0] at he
    subst he
    have CB66 := Lib.hid (Below.trans (show Below wc.heap.size wc _ from CB61.out) (hb.mono (show wc.heap.size ≤ _ from Below.size CB61.out)))
    clear hb
    refine hK.out _ _ (⟨(cellsM ((HX.out _ (CB66.out)).1.2.2 (g17, boxM (.pointer (some ⟨b2, 0, none⟩)) rtu) (List.mem_cons_self ..)).1).2, (cellsP ((HX.out _ (CB66.out)).1.2.2 (w12.heap.size, boxP ⟨1, 5⟩) (List.mem_cons_of_mem _ (List.mem_cons_of_mem _ (List.mem_cons_self ..)))).1).2, (cellsM ((HX.out _ (CB66.out)).1.2.2 (w9.heap.size, boxM (.pointer (some ⟨w.heap.size, 0, none⟩)) 0) (List.mem_cons_of_mem _ (List.mem_cons_of_mem _ (List.mem_cons_of_mem _ (List.mem_cons_self ..))))).1).2, (cellsM ((HX.out _ (CB66.out)).1.2.2 (w5.heap.size, boxM (.pointer (some ⟨w.heap.size, 0, none⟩)) rt2) (List.mem_cons_of_mem _ (List.mem_cons_of_mem _ (List.mem_cons_of_mem _ (List.mem_cons_of_mem _ (List.mem_cons_of_mem _ (List.mem_cons_self ..))))))).1).2, (cellsM ((HX.out _ (CB66.out)).1.2.2 (w3.heap.size, boxM (.pointer (some ⟨w.heap.size, 0, none⟩)) rt1) (List.mem_cons_of_mem _ (List.mem_cons_of_mem _ (List.mem_cons_of_mem _ (List.mem_cons_of_mem _ (List.mem_cons_of_mem _ (List.mem_cons_of_mem _ (List.mem_cons_self ..)))))))).1).2, (cellsM ((HX.out _ (CB66.out)).1.2.2 (w2.heap.size, boxM (.pointer (some ⟨w.heap.size, 0, none⟩)) 0) (List.mem_cons_of_mem _ (List.mem_cons_of_mem _ (List.mem_cons_of_mem _ (List.mem_cons_of_mem _ (List.mem_cons_of_mem _ (List.mem_cons_of_mem _ (List.mem_cons_of_mem _ (List.mem_cons_self ..))))))))).1).2⟩) (fun hHeld66 => ?_)
    clear hK K
    try simp only [Act.put, List.getElem_toArray, List.getElem_cons_zero, List.getElem_cons_succ, List.setIfInBounds_toArray, List.set_cons_zero, List.set_cons_succ]
    refine wpAnyH_take (i := 66) (v := ?_) rfl (by as_aux_lemma => kernel_rfl) (by as_aux_lemma => kernel_rfl) (by as_aux_lemma => kernel_rfl) (fun _ _ _ h => h) (Or.inl ⟨by as_aux_lemma => rfl, ?ylw67⟩) (by assumption) ?qlw67
    case ylw67 => (intro wz hSw; (try dsimp only at hSw); go_simp <;> with_reducible rfl)
    try simp only [Act.put, List.getElem_toArray, List.getElem_cons_zero, List.getElem_cons_succ, List.setIfInBounds_toArray, List.set_cons_zero, List.set_cons_succ]
    refine wpAnyH_take (i := 67) (v := ?_) rfl (by as_aux_lemma => kernel_rfl) (by as_aux_lemma => kernel_rfl) (by as_aux_lemma => kernel_rfl) (fun _ _ _ h => h) (Or.inl ⟨by as_aux_lemma => rfl, ?ylw68⟩) (by assumption) ?qlw68
    case ylw68 => (intro wz hSw; (try dsimp only at hSw); go_simp <;> with_reducible rfl)
    try simp only [Act.put, List.getElem_toArray, List.getElem_cons_zero, List.getElem_cons_succ, List.setIfInBounds_toArray, List.set_cons_zero, List.set_cons_succ]
    refine wpAnyH_take (i := 68) (v := ?_) rfl (by as_aux_lemma => kernel_rfl) (by as_aux_lemma => kernel_rfl) (by as_aux_lemma => kernel_rfl) (fun _ _ _ h => h) (Or.inl ⟨by as_aux_lemma => rfl, ?ylw69⟩) (by assumption) ?qlw69
    case ylw69 => (intro wz hSw; (try dsimp only at hSw); go_simp <;> with_reducible rfl)
    try simp only [Act.put, List.getElem_toArray, List.getElem_cons_zero, List.getElem_cons_succ, List.setIfInBounds_toArray, List.set_cons_zero, List.set_cons_succ]
    refine wpAnyH_take (i := 69) (v := ?_) rfl (by as_aux_lemma => kernel_rfl) (by as_aux_lemma => kernel_rfl) (by as_aux_lemma => kernel_rfl) (fun _ _ _ h => h) (Or.inl ⟨by as_aux_lemma => rfl, ?ylw70⟩) (by assumption) ?qlw70
    case ylw70 => (intro wz hSw; (try dsimp only at hSw); go_simp <;> with_reducible rfl)
    try simp only [Act.put, List.getElem_toArray, List.getElem_cons_zero, List.getElem_cons_succ, List.setIfInBounds_toArray, List.set_cons_zero, List.set_cons_succ]
    refine wpAnyH_take (i := 70) (v := ?_) rfl (by as_aux_lemma => kernel_rfl) (by as_aux_lemma => kernel_rfl) (by as_aux_lemma => kernel_rfl) (fun _ _ _ h => h) (Or.inl ⟨by as_aux_lemma => rfl, ?ylw71⟩) (by assumption) ?qlw71
    case ylw71 => (intro wz hSw; (try dsimp only at hSw); go_simp <;> with_reducible rfl)
    try simp only [Act.put, List.getElem_toArray, List.getElem_cons_zero, List.getElem_cons_succ, List.setIfInBounds_toArray, List.set_cons_zero, List.set_cons_succ]
    refine wpAnyH_take (i := 71) (v := ?_) rfl (by as_aux_lemma => kernel_rfl) (by as_aux_lemma => kernel_rfl) (by as_aux_lemma => kernel_rfl) (fun _ _ _ h => h) (Or.inl ⟨by as_aux_lemma => rfl, ?ylw72⟩) (by assumption) ?qlw72
    case ylw72 => (intro wz hSw; (try dsimp only at hSw); go_simp <;> with_reducible rfl)
    try simp only [Act.put, List.getElem_toArray, List.getElem_cons_zero, List.getElem_cons_succ, List.setIfInBounds_toArray, List.set_cons_zero, List.set_cons_succ]
    refine wpAnyH_take (i := 72) (v := ?_) rfl (by as_aux_lemma => kernel_rfl) (by as_aux_lemma => kernel_rfl) (by as_aux_lemma => kernel_rfl) (fun _ _ _ h => h) (Or.inl ⟨by as_aux_lemma => rfl, ?ylw73⟩) (by assumption) ?qlw73
    case ylw73 => (intro wz hSw; (try dsimp only at hSw); go_simp <;> with_reducible rfl)
    try simp only [Act.put, List.getElem_toArray, List.getElem_cons_zero, List.getElem_cons_succ, List.setIfInBounds_toArray, List.set_cons_zero, List.set_cons_succ]
    refine wpAnyH_take (i := 73) (v := ?_) rfl (by as_aux_lemma => kernel_rfl) (by as_aux_lemma => kernel_rfl) (by as_aux_lemma => kernel_rfl) (fun _ _ _ h => h) (Or.inl ⟨by as_aux_lemma => rfl, ?ylw74⟩) (by assumption) ?qlw74
    case ylw74 => (intro wz hSw; (try dsimp only at hSw); go_simp <;> with_reducible rfl)
    try simp only [Act.put, List.getElem_toArray, List.getElem_cons_zero, List.getElem_cons_succ, List.setIfInBounds_toArray, List.set_cons_zero, List.set_cons_succ]
    refine wpAnyH_take (i := 75) (v := ?_) rfl (by as_aux_lemma => kernel_rfl) (by as_aux_lemma => kernel_rfl) (by as_aux_lemma => kernel_rfl) (fun _ _ _ h => h) (Or.inl ⟨by as_aux_lemma => rfl, ?ylw75⟩) (by assumption) ?qlw75
    case ylw75 => (intro wz hSw; (try dsimp only at hSw); go_simp <;> with_reducible rfl)
    try simp only [Act.put, List.getElem_toArray, List.getElem_cons_zero, List.getElem_cons_succ, List.setIfInBounds_toArray, List.set_cons_zero, List.set_cons_succ]
    refine wpAnyH_ready (rs := [74]) (by as_aux_lemma => kernel_rfl) (by simp) ?_
    refine AllReadyH.cons rfl (fun K hK => ?_) AllReadyH.nil
    go_simp
    refine (pmlist (HX.out _ CB66.out).2.1 (t := mkT T1.list) (root := rtu) HU.out mkT1_size).mono ?_
    rintro e u76 ⟨vu, rfl, hou, hb⟩
    rw [mkT_list _ _ rfl] at hou
    have OU := Lib.hid hou
    have CB76 := Lib.hid (Below.trans (show Below wc.heap.size wc _ from CB66.out) (hb.mono (show wc.heap.size ≤ _ from Below.size CB66.out)))
    clear hb hou
    refine hK.out _ _ (⟨(cellsM ((HX.out _ (CB76.out)).1.2.2 (g17, boxM (.pointer (some ⟨b2, 0, none⟩)) rtu) (List.mem_cons_self ..)).1).2, (cellsP ((HX.out _ (CB76.out)).1.2.2 (w12.heap.size, boxP ⟨1, 5⟩) (List.mem_cons_of_mem _ (List.mem_cons_of_mem _ (List.mem_cons_self ..)))).1).2, (cellsM ((HX.out _ (CB76.out)).1.2.2 (w9.heap.size, boxM (.pointer (some ⟨w.heap.size, 0, none⟩)) 0) (List.mem_cons_of_mem _ (List.mem_cons_of_mem _ (List.mem_cons_of_mem _ (List.mem_cons_self ..))))).1).2, (cellsM ((HX.out _ (CB76.out)).1.2.2 (w5.heap.size, boxM (.pointer (some ⟨w.heap.size, 0, none⟩)) rt2) (List.mem_cons_of_mem _ (List.mem_cons_of_mem _ (List.mem_cons_of_mem _ (List.mem_cons_of_mem _ (List.mem_cons_of_mem _ (List.mem_cons_self ..))))))).1).2, (cellsM ((HX.out _ (CB76.out)).1.2.2 (w3.heap.size, boxM (.pointer (some ⟨w.heap.size, 0, none⟩)) rt1) (List.mem_cons_of_mem _ (List.mem_cons_of_mem _ (List.mem_cons_of_mem _ (List.mem_cons_of_mem _ (List.mem_cons_of_mem _ (List.mem_cons_of_mem _ (List.mem_cons_self ..)))))))).1).2, (cellsM ((HX.out _ (CB76.out)).1.2.2 (w2.heap.size, boxM (.pointer (some ⟨w.heap.size, 0, none⟩)) 0) (List.mem_cons_of_mem _ (List.mem_cons_of_mem _ (List.mem_cons_of_mem _ (List.mem_cons_of_mem _ (List.mem_cons_of_mem _ (List.mem_cons_of_mem _ (List.mem_cons_of_mem _ (List.mem_cons_self ..))))))))).1).2⟩) (fun hHeld76 => ?_)
    clear hK K
    try simp only [Act.put, List.getElem_toArray, List.getElem_cons_zero, List.getElem_cons_succ, List.setIfInBounds_toArray, List.set_cons_zero, List.set_cons_succ]
    refine wpAnyH_ready (rs := [76]) (by as_aux_lemma => kernel_rfl) (by simp) ?_
    refine AllReadyH.cons rfl (fun K hK => ?_) AllReadyH.nil
    go_simp
    refine (pmlist (HX.out _ CB76.out).1.1.1 (t := T1) (root := rt1) H3.out.2.2.2 (by decide)).mono ?_
    rintro e u77 ⟨vx, rfl, hou, hb⟩
    have OX := Lib.hid (And.intro (OU.out.below hb) hou)
    have CB77 := Lib.hid (Below.trans (show Below wc.heap.size wc _ from CB76.out) (hb.mono (show wc.heap.size ≤ _ from Below.size CB76.out)))
    clear hb hou OU
    refine hK.out _ _ (⟨(cellsM ((HX.out _ (CB77.out)).1.2.2 (g17, boxM (.pointer (some ⟨b2, 0, none⟩)) rtu) (List.mem_cons_self ..)).1).2, (cellsP ((HX.out _ (CB77.out)).1.2.2 (w12.heap.size, boxP ⟨1, 5⟩) (List.mem_cons_of_mem _ (List.mem_cons_of_mem _ (List.mem_cons_self ..)))).1).2, (cellsM ((HX.out _ (CB77.out)).1.2.2 (w9.heap.size, boxM (.pointer (some ⟨w.heap.size, 0, none⟩)) 0) (List.mem_cons_of_mem _ (List.mem_cons_of_mem _ (List.mem_cons_of_mem _ (List.mem_cons_self ..))))).1).2, (cellsM ((HX.out _ (CB77.out)).1.2.2 (w5.heap.size, boxM (.pointer (some ⟨w.heap.size, 0, none⟩)) rt2) (List.mem_cons_of_mem _ (List.mem_cons_of_mem _ (List.mem_cons_of_mem _ (List.mem_cons_of_mem _ (List.mem_cons_of_mem _ (List.mem_cons_self ..))))))).1).2, (cellsM ((HX.out _ (CB77.out)).1.2.2 (w3.heap.size, boxM (.pointer (some ⟨w.heap.size, 0, none⟩)) rt1) (List.mem_cons_of_mem _ (List.mem_cons_of_mem _ (List.mem_cons_of_mem _ (List.mem_cons_of_mem _ (List.mem_cons_of_mem _ (List.mem_cons_of_mem _ (List.mem_cons_self ..)))))))).1).2, (cellsM ((HX.out _ (CB77.out)).1.2.2 (w2.heap.size, boxM (.pointer (some ⟨w.heap.size, 0, none⟩)) 0) (List.mem_cons_of_mem _ (List.mem_cons_of_mem _ (List.mem_cons_of_mem _ (List.mem_cons_of_mem _ (List.mem_cons_of_mem _ (List.mem_cons_of_mem _ (List.mem_cons_of_mem _ (List.mem_cons_self ..))))))))).1).2⟩) (fun hHeld77 => ?_)
    clear hK K
    try simp only [Act.put, List.getElem_toArray, List.getElem_cons_zero, List.getElem_cons_succ, List.setIfInBounds_toArray, List.set_cons_zero, List.set_cons_succ]
    refine wpAnyH_ready (rs := [77]) (by as_aux_lemma => kernel_rfl) (by simp) ?_
    refine AllReadyH.cons rfl (fun K hK => ?_) AllReadyH.nil
    go_simp
    refine (same_self OX.out.1 OX.out.2 (by decide)).mono ?_
    rintro e u78 ⟨rfl, hb⟩
    have CB78 := Lib.hid (Below.trans (show Below wc.heap.size wc _ from CB77.out) (hb.mono (show wc.heap.size ≤ _ from Below.size CB77.out)))
    clear hb OX
    refine hK.out _ _ (⟨(cellsM ((HX.out _ (CB78.out)).1.2.2 (g17, boxM (.pointer (some ⟨b2, 0, none⟩)) rtu) (List.mem_cons_self ..)).1).2, (cellsP ((HX.out _ (CB78.out)).1.2.2 (w12.heap.size, boxP ⟨1, 5⟩) (List.mem_cons_of_mem _ (List.mem_cons_of_mem _ (List.mem_cons_self ..)))).1).2, (cellsM ((HX.out _ (CB78.out)).1.2.2 (w9.heap.size, boxM (.pointer (some ⟨w.heap.size, 0, none⟩)) 0) (List.mem_cons_of_mem _ (List.mem_cons_of_mem _ (List.mem_cons_of_mem _ (List.mem_cons_self ..))))).1).2, (cellsM ((HX.out _ (CB78.out)).1.2.2 (w5.heap.size, boxM (.pointer (some ⟨w.heap.size, 0, none⟩)) rt2) (List.mem_cons_of_mem _ (List.mem_cons_of_mem _ (List.mem_cons_of_mem _ (List.mem_cons_of_mem _ (List.mem_cons_of_mem _ (List.mem_cons_self ..))))))).1).2, (cellsM ((HX.out _ (CB78.out)).1.2.2 (w3.heap.size, boxM (.pointer (some ⟨w.heap.size, 0, none⟩)) rt1) (List.mem_cons_of_mem _ (List.mem_cons_of_mem _ (List.mem_cons_of_mem _ (List.mem_cons_of_mem _ (List.mem_cons_of_mem _ (List.mem_cons_of_mem _ (List.mem_cons_self ..)))))))).1).2, (cellsM ((HX.out _ (CB78.out)).1.2.2 (w2.heap.size, boxM (.pointer (some ⟨w.heap.size, 0, none⟩)) 0) (List.mem_cons_of_mem _ (List.mem_cons_of_mem _ (List.mem_cons_of_mem _ (List.mem_cons_of_mem _ (List.mem_cons_of_mem _ (List.mem_cons_of_mem _ (List.mem_cons_of_mem _ (List.mem_cons_self ..))))))))).1).2⟩) (fun hHeld78 => ?_)
    clear hK K
    try simp only [Act.put, List.getElem_toArray, List.getElem_cons_zero, List.getElem_cons_succ, List.setIfInBounds_toArray, List.set_cons_zero, List.set_cons_succ]
    refine wpAnyH_take (i := 78) (v := ?_) rfl (by as_aux_lemma => kernel_rfl) (by as_aux_lemma => kernel_rfl) (by as_aux_lemma => kernel_rfl) (fun _ _ _ h => h) (Or.inl ⟨by as_aux_lemma => rfl, ?ylw79⟩) (by assumption) ?qlw79
    case ylw79 => (intro wz hSw; (try dsimp only at hSw); go_simp <;> with_reducible rfl)
    try simp only [Act.put, List.getElem_toArray, List.getElem_cons_zero, List.getElem_cons_succ, List.setIfInBounds_toArray, List.set_cons_zero, List.set_cons_succ]
    refine wpAnyH_take (i := 79) (v := ?_) rfl (by as_aux_lemma => kernel_rfl) (by as_aux_lemma => kernel_rfl) (by as_aux_lemma => kernel_rfl) (fun _ _ _ h => h) (Or.inl ⟨by as_aux_lemma => rfl, ?ylw80⟩) (by assumption) ?qlw80
    case ylw80 => (intro wz hSw; (try dsimp only at hSw); go_simp <;> with_reducible rfl)
    try simp only [Act.put, List.getElem_toArray, List.getElem_cons_zero, List.getElem_cons_succ, List.setIfInBounds_toArray, List.set_cons_zero, List.set_cons_succ]
    refine wpAnyH_take (i := 80) (v := ?_) rfl (by as_aux_lemma => kernel_rfl) (by as_aux_lemma => kernel_rfl) (by as_aux_lemma => kernel_rfl) (fun _ _ _ h => h) (Or.inl ⟨by as_aux_lemma => rfl, ?ylw81⟩) (by assumption) ?qlw81
    case ylw81 => (intro wz hSw; (try dsimp only at hSw); go_simp <;> with_reducible rfl)
    try simp only [Act.put, List.getElem_toArray, List.getElem_cons_zero, List.getElem_cons_succ, List.setIfInBounds_toArray, List.set_cons_zero, List.set_cons_succ]
    refine wpAnyH_take (i := 81) (v := ?_) rfl (by as_aux_lemma => kernel_rfl) (by as_aux_lemma => kernel_rfl) (by as_aux_lemma => kernel_rfl) (fun _ _ _ h => h) (Or.inl ⟨by as_aux_lemma => rfl, ?ylw82⟩) (by assumption) ?qlw82
    case ylw82 => (intro wz hSw; (try dsimp only at hSw); go_simp <;> with_reducible rfl)
    try simp only [Act.put, List.getElem_toArray, List.getElem_cons_zero, List.getElem_cons_succ, List.setIfInBounds_toArray, List.set_cons_zero, List.set_cons_succ]
    refine wpAnyH_take (i := 82) (v := ?_) rfl (by as_aux_lemma => kernel_rfl) (by as_aux_lemma => kernel_rfl) (by as_aux_lemma => kernel_rfl) (fun _ _ _ h => h) (Or.inl ⟨by as_aux_lemma => rfl, ?ylw83⟩) (by assumption) ?qlw83
    case ylw83 => (intro wz hSw; (try dsimp only at hSw); go_simp <;> with_reducible rfl)
    try simp only [Act.put, List.getElem_toArray, List.getElem_cons_zero, List.getElem_cons_succ, List.setIfInBounds_toArray, List.set_cons_zero, List.set_cons_succ]
    refine wpAnyH_take (i := 83) (v := ?_) rfl (by as_aux_lemma => kernel_rfl) (by as_aux_lemma => kernel_rfl) (by as_aux_lemma => kernel_rfl) (fun _ _ _ h => h) (Or.inl ⟨by as_aux_lemma => rfl, ?ylw84⟩) (by assumption) ?qlw84
    case ylw84 => (intro wz hSw; (try dsimp only at hSw); go_simp <;> with_reducible rfl)
    try simp only [Act.put, List.getElem_toArray, List.getElem_cons_zero, List.getElem_cons_succ, List.setIfInBounds_toArray, List.set_cons_zero, List.set_cons_succ]
    refine wpAnyH_take (i := 84) (v := ?_) rfl (by as_aux_lemma => kernel_rfl) (by as_aux_lemma => kernel_rfl) (by as_aux_lemma => kernel_rfl) (fun _ _ _ h => h) (Or.inl ⟨by as_aux_lemma => rfl, ?ylw85⟩) (by assumption) ?qlw85
    case ylw85 => (intro wz hSw; (try dsimp only at hSw); go_simp <;> with_reducible rfl)
    try simp only [Act.put, List.getElem_toArray, List.getElem_cons_zero, List.getElem_cons_succ, List.setIfInBounds_toArray, List.set_cons_zero, List.set_cons_succ]
    refine wpAnyH_take (i := 85) (v := ?_) rfl (by as_aux_lemma => kernel_rfl) (by as_aux_lemma => kernel_rfl) (by as_aux_lemma => kernel_rfl) (fun _ _ _ h => h) (Or.inl ⟨by as_aux_lemma => rfl, ?ylw86⟩) (by assumption) ?qlw86
    case ylw86 => (intro wz hSw; (try dsimp only at hSw); go_simp <;> with_reducible rfl)
    try simp only [Act.put, List.getElem_toArray, List.getElem_cons_zero, List.getElem_cons_succ, List.setIfInBounds_toArray, List.set_cons_zero, List.set_cons_succ]
    refine wpAnyH_take (i := 86) (v := ?_) rfl (by as_aux_lemma => kernel_rfl) (by as_aux_lemma => kernel_rfl) (by as_aux_lemma => kernel_rfl) (fun _ _ _ h => h) (Or.inl ⟨by as_aux_lemma => rfl, ?ylw87⟩) (by assumption) ?qlw87
    case ylw87 => (intro wz hSw; (try dsimp only at hSw); go_simp <;> with_reducible rfl)
    try simp only [Act.put, List.getElem_toArray, List.getElem_cons_zero, List.getElem_cons_succ, List.setIfInBounds_toArray, List.set_cons_zero, List.set_cons_succ]
    refine wpAnyH_take (i := 87) (v := ?_) rfl (by as_aux_lemma => kernel_rfl) (by as_aux_lemma => kernel_rfl) (by as_aux_lemma => kernel_rfl) (fun _ _ _ h => h) (Or.inl ⟨by as_aux_lemma => rfl, ?ylw88⟩) (by assumption) ?qlw88
    case ylw88 => (intro wz hSw; (try dsimp only at hSw); go_simp <;> with_reducible rfl)
    try simp only [Act.put, List.getElem_toArray, List.getElem_cons_zero, List.getElem_cons_succ, List.setIfInBounds_toArray, List.set_cons_zero, List.set_cons_succ]
    refine wpAnyH_take (i := 88) (v := ?_) rfl (by as_aux_lemma => kernel_rfl) (by as_aux_lemma => kernel_rfl) (by as_aux_lemma => kernel_rfl) (fun _ _ _ h => h) (Or.inl ⟨by as_aux_lemma => rfl, ?ylw89⟩) (by assumption) ?qlw89
    case ylw89 => (intro wz hSw; (try dsimp only at hSw); go_simp <;> with_reducible rfl)
    try simp only [Act.put, List.getElem_toArray, List.getElem_cons_zero, List.getElem_cons_succ, List.setIfInBounds_toArray, List.set_cons_zero, List.set_cons_succ]
    refine wpAnyH_take (i := 89) (v := ?_) rfl (by as_aux_lemma => kernel_rfl) (by as_aux_lemma => kernel_rfl) (by as_aux_lemma => kernel_rfl) (fun _ _ _ h => h) (Or.inl ⟨by as_aux_lemma => rfl, ?ylw90⟩) (by assumption) ?qlw90
    case ylw90 => (intro wz hSw; (try dsimp only at hSw); go_simp <;> with_reducible rfl)
    try simp only [Act.put, List.getElem_toArray, List.getElem_cons_zero, List.getElem_cons_succ, List.setIfInBounds_toArray, List.set_cons_zero, List.set_cons_succ]
    refine wpAnyH_take (i := 90) (v := ?_) rfl (by as_aux_lemma => kernel_rfl) (by as_aux_lemma => kernel_rfl) (by as_aux_lemma => kernel_rfl) (fun _ _ _ h => h) (Or.inl ⟨by as_aux_lemma => rfl, ?ylw91⟩) (by assumption) ?qlw91
    case ylw91 => (intro wz hSw; (try dsimp only at hSw); go_simp <;> with_reducible rfl)
    try simp only [Act.put, List.getElem_toArray, List.getElem_cons_zero, List.getElem_cons_succ, List.setIfInBounds_toArray, List.set_cons_zero, List.set_cons_succ]
    refine wpAnyH_take (i := 91) (v := ?_) rfl (by as_aux_lemma => kernel_rfl) (by as_aux_lemma => kernel_rfl) (by as_aux_lemma => kernel_rfl) (fun _ _ _ h => h) (Or.inl ⟨by as_aux_lemma => rfl, ?ylw92⟩) (by assumption) ?qlw92
    case ylw92 => (intro wz hSw; (try dsimp only at hSw); go_simp <;> with_reducible rfl)
    try simp only [Act.put, List.getElem_toArray, List.getElem_cons_zero, List.getElem_cons_succ, List.setIfInBounds_toArray, List.set_cons_zero, List.set_cons_succ]
    refine wpAnyH_take (i := 92) (v := ?_) rfl (by as_aux_lemma => kernel_rfl) (by as_aux_lemma => kernel_rfl) (by as_aux_lemma => kernel_rfl) (fun _ _ _ h => h) (Or.inl ⟨by as_aux_lemma => rfl, ?ylw93⟩) (by assumption) ?qlw93
    case ylw93 => (intro wz hSw; (try dsimp only at hSw); go_simp <;> with_reducible rfl)
    try simp only [Act.put, List.getElem_toArray, List.getElem_cons_zero, List.getElem_cons_succ, List.setIfInBounds_toArray, List.set_cons_zero, List.set_cons_succ]
    refine wpAnyH_ready (rs := [93]) (by as_aux_lemma => kernel_rfl) (by simp) ?_
    refine AllReadyH.cons rfl (fun K hK => ?_) AllReadyH.nil
    go_simp
    refine (pmlist_nil _).mono ?_
    rintro e u94 ⟨p0, c0, rfl, hb⟩
    have CB94 := Lib.hid (Below.trans (show Below wc.heap.size wc _ from CB78.out) (hb.mono (show wc.heap.size ≤ _ from Below.size CB78.out)))
    clear hb
    refine hK.out _ _ (⟨(cellsM ((HX.out _ (CB94.out)).1.2.2 (g17, boxM (.pointer (some ⟨b2, 0, none⟩)) rtu) (List.mem_cons_self ..)).1).2, (cellsP ((HX.out _ (CB94.out)).1.2.2 (w12.heap.size, boxP ⟨1, 5⟩) (List.mem_cons_of_mem _ (List.mem_cons_of_mem _ (List.mem_cons_self ..)))).1).2, (cellsM ((HX.out _ (CB94.out)).1.2.2 (w9.heap.size, boxM (.pointer (some ⟨w.heap.size, 0, none⟩)) 0) (List.mem_cons_of_mem _ (List.mem_cons_of_mem _ (List.mem_cons_of_mem _ (List.mem_cons_self ..))))).1).2, (cellsM ((HX.out _ (CB94.out)).1.2.2 (w5.heap.size, boxM (.pointer (some ⟨w.heap.size, 0, none⟩)) rt2) (List.mem_cons_of_mem _ (List.mem_cons_of_mem _ (List.mem_cons_of_mem _ (List.mem_cons_of_mem _ (List.mem_cons_of_mem _ (List.mem_cons_self ..))))))).1).2, (cellsM ((HX.out _ (CB94.out)).1.2.2 (w3.heap.size, boxM (.pointer (some ⟨w.heap.size, 0, none⟩)) rt1) (List.mem_cons_of_mem _ (List.mem_cons_of_mem _ (List.mem_cons_of_mem _ (List.mem_cons_of_mem _ (List.mem_cons_of_mem _ (List.mem_cons_of_mem _ (List.mem_cons_self ..)))))))).1).2, (cellsM ((HX.out _ (CB94.out)).1.2.2 (w2.heap.size, boxM (.pointer (some ⟨w.heap.size, 0, none⟩)) 0) (List.mem_cons_of_mem _ (List.mem_cons_of_mem _ (List.mem_cons_of_mem _ (List.mem_cons_of_mem _ (List.mem_cons_of_mem _ (List.mem_cons_of_mem _ (List.mem_cons_of_mem _ (List.mem_cons_self ..))))))))).1).2⟩) (fun hHeld94 => ?_)
    clear hK K
    try simp only [Act.put, List.getElem_toArray, List.getElem_cons_zero, List.getElem_cons_succ, List.setIfInBounds_toArray, List.set_cons_zero, List.set_cons_succ]
    refine wpAnyH_take (i := 94) (v := ?_) rfl (by as_aux_lemma => kernel_rfl) (by as_aux_lemma => kernel_rfl) (by as_aux_lemma => kernel_rfl) (fun _ _ _ h => h) (Or.inl ⟨by as_aux_lemma => rfl, ?ylw95⟩) (by assumption) ?qlw95
    case ylw95 => (intro wz hSw; (try dsimp only at hSw); go_simp <;> with_reducible rfl)
    try simp only [Act.put, List.getElem_toArray, List.getElem_cons_zero, List.getElem_cons_succ, List.setIfInBounds_toArray, List.set_cons_zero, List.set_cons_succ]
    refine wpAnyH_take (i := 95) (v := ?_) rfl (by as_aux_lemma => kernel_rfl) (by as_aux_lemma => kernel_rfl) (by as_aux_lemma => kernel_rfl) (fun _ _ _ h => h) (Or.inl ⟨by as_aux_lemma => rfl, ?ylw96⟩) (by assumption) ?qlw96
    case ylw96 => (intro wz hSw; (try dsimp only at hSw); go_simp <;> with_reducible rfl)
    try simp only [Act.put, List.getElem_toArray, List.getElem_cons_zero, List.getElem_cons_succ, List.setIfInBounds_toArray, List.set_cons_zero, List.set_cons_succ]
    refine wpAnyH_take (i := 96) (v := ?_) rfl (by as_aux_lemma => kernel_rfl) (by as_aux_lemma => kernel_rfl) (by as_aux_lemma => kernel_rfl) (fun _ _ _ h => h) (Or.inl ⟨by as_aux_lemma => rfl, ?ylw97⟩) (by assumption) ?qlw97
    case ylw97 => (intro wz hSw; (try dsimp only at hSw); go_simp <;> with_reducible rfl)
    try simp only [Act.put, List.getElem_toArray, List.getElem_cons_zero, List.getElem_cons_succ, List.setIfInBounds_toArray, List.set_cons_zero, List.set_cons_succ]
    refine wpAnyH_take (i := 97) (v := ?_) rfl (by as_aux_lemma => kernel_rfl) (by as_aux_lemma => kernel_rfl) (by as_aux_lemma => kernel_rfl) (fun _ _ _ h => h) (Or.inl ⟨by as_aux_lemma => rfl, ?ylw98⟩) (by assumption) ?qlw98
    case ylw98 => (intro wz hSw; (try dsimp only at hSw); go_simp <;> with_reducible rfl)
    try simp only [Act.put, List.getElem_toArray, List.getElem_cons_zero, List.getElem_cons_succ, List.setIfInBounds_toArray, List.set_cons_zero]
    refine wpAnyH_done (by as_aux_lemma => kernel_rfl) ?_ _
    go_wp2_with fail
    go_ret
    exact ⟨rfl, (HX.out _ CB94.out).1.1.2.1⟩
end Go.Proofs.Ytpmimngngehmlaa.F
