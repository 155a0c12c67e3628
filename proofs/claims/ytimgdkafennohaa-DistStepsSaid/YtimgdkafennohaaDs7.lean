/-
  Shortest walks: contract of the search. Not a statement of the seat.
-/
import Derived.Test.YtimgdkafennohaaDs6
import Derived.Deep.RegionHeld3
import Derived.Deep.DeepCutAuto
namespace Go.Proofs.Ytimgdkafennohaa.Ds
open Go.ChangeShapes Go.WideShapes Go.ChangeAt Go.RowKit Base F Gr
theorem joinG4 {α β γ δ : Type} {P : Prop} (J : α → β → γ → δ → Prop) (G : α → β → γ → δ → Prop) (h1 : (∀ x y z u, J x y z u → G x y z u) → P) (h2 : ∀ x y z u, J x y z u → G x y z u) : P := h1 h2
/-- A digraph's nodes, whenever they are asked for. -/
def NodesOk (W0 : World) (n : Nat) (pg : Option Addr) : Prop := ∀ W, Below W0.heap.size W0 W → Calls Try.prog 24 #[.pointer pg] W (HeldP (.int .i64 (n : Int)) W)
set_option maxHeartbeats 16000000 in
set_option maxRecDepth 100000 in
theorem shortest_any {w : World} {n : Nat} {pg : Option Addr} {pv : Int → Nat → List Nat} (hn : n ≤ 4096) (hN : NodesOk w n pg) (hP : PvOk w n pg pv) (mask must least : Int) (node : Int) (st : Nat) (hst : st ≤ 1) : Calls Try.prog 14 #[.pointer pg, .agg #[.int .i64 mask, .int .i64 must, .int .i64 least], .int .i64 node, .int .i64 (st : Int)] w (AnsP w n st (okP n least) (pvP pv mask must) (startP n node)) := by
  have hmk1 : ∀ wx, (Instr.makeSlice 26 (.int .i64 (n : Int)) (.int .i64 (n : Int))).run Try.prog wx = .ok (.slice (some ⟨wx.heap.size, 0, none⟩) n n) (wx.alloc (.cells (madeCells #[.int .i64 0] n) 3)) := fun wx =>
    run_make_row' (P := Try.prog) 26 3 (.int .i64 0) 8 Try.underlying26 Lst.int_info rfl .i64 .i64 n (by omega) (by omega) wx
  have hmk2 : ∀ wx, (Instr.makeSlice 59 (.int .i64 (n : Int)) (.int .i64 (n : Int))).run Try.prog wx = .ok (.slice (some ⟨wx.heap.size, 0, none⟩) n n) (wx.alloc (.cells (madeCells #[.int .i64 0, .int .i64 0] (n * 2)) 65)) := fun wx => run_make_pairs hn wx
  have HNODES := Lib.hid hN
  have HPV := Lib.hid hP
  have HQN : Hid (∀ U, Calls Try.prog 25 #[.int .i64 (2 * (n : Int))] U fun e u => ∃ b, e = .returned (.pointer (some ⟨b, 0, none⟩)) ∧ (∀ w : World, w.heap.size ≤ U.heap.size → QF w b (2 * n) u) ∧ Below U.heap.size U u) := Lib.hid fun U => by
    refine (fqnew _ U).mono ?_
    rintro e u ⟨b, g, he, hq, h1, h2, hb⟩
    have e1 : roomOf (2 * (n : Int)) = 2 * n := by unfold roomOf; omega
    rw [e1] at hq
    exact ⟨b, he, fun w hw => ⟨g, ⟨by omega, by omega⟩, hq⟩, hb⟩
  have hni : (n : Int) ≤ 4096 := by omega
  have HW2 : Hid (IntKind.i64.wrap (2 * (n : Int)) = 2 * (n : Int)) := Lib.hid (by rw [IntKind.wrap_i64]; omega)
  have HN4 := Lib.hid hn
  have HST := Lib.hid hst
  clear hN hP hn
  go_enter Try.func14, Try.ntmps14
  go_upto_region 1 with fail
  obtain ⟨gR, hgR⟩ : ∃ g, g = w.heap.size := ⟨_, rfl⟩
  obtain ⟨w1, hw1⟩ : ∃ X, X = w.alloc (.cells #[.int .i64 mask, .int .i64 must, .int .i64 least] 42) := ⟨_, rfl⟩
  have FR := Lib.hid (CF.new (Nat.le_refl w.heap.size) hgR hw1)
  have HB : Hid (Below w.heap.size w w1.drew) := Lib.hid (by rw [hw1]; exact below_drewN ((Below.refl _ _).alloc (Nat.le_refl _) _) 1)
  rw [← hgR, ← hw1]
  clear hgR hw1
  refine joinG4 (fun (x y z : Nat) (u : World) => (∃ gr, D0 w.heap.size ⟨z, x, y, gr⟩ n mask must least pg u 0) ∧ Below w.heap.size w u) ?G (fun HJ => ?fork) ?rest
  case fork =>
    replace HJ := Lib.hid HJ
    refine wp_region_held_drew (S := fun X => X.cell? ⟨gR, 0, none⟩ = some (.int .i64 mask) ∧ X.cell? ⟨gR, 1, none⟩ = some (.int .i64 must) ∧ X.cell? ⟨gR, 2, none⟩ = some (.int .i64 least)) (by kernel_rfl) (rc_of FR.out.2) (fun hHeld0 => ?_)
    obtain ⟨U0, hU0⟩ : ∃ X, X = w1.drew := ⟨_, rfl⟩
    rw [← hU0] at HB hHeld0 ⊢
    replace FR : Hid (CF w gR (.cells #[.int .i64 mask, .int .i64 must, .int .i64 least] 42) U0) := Lib.hid (by rw [hU0]; exact FR.out)
    clear hU0
    refine wpAnyH_take (i := 0) (v := ?_) rfl (by kernel_rfl) (by kernel_rfl) (by kernel_rfl) (fun _ _ _ h => h) (Or.inl ⟨by rfl, ?yds1⟩) (by assumption) ?qds1
    case yds1 => (intro wz hSw; (try dsimp only at hSw); go_simp <;> with_reducible rfl)
    try simp only [Act.put, List.getElem_toArray, List.getElem_cons_zero, List.setIfInBounds_toArray, List.set_cons_zero, List.set_cons_succ]
    refine wpAnyH_take (i := 1) (v := ?_) rfl (by kernel_rfl) (by kernel_rfl) (by kernel_rfl) (fun _ _ _ h => h) (Or.inl ⟨by rfl, ?yds2⟩) (by assumption) ?qds2
    case yds2 => (intro wz hSw; (try dsimp only at hSw); go_simp <;> with_reducible rfl)
    try simp only [Act.put, List.getElem_toArray, List.getElem_cons_zero, List.getElem_cons_succ, List.setIfInBounds_toArray, List.set_cons_zero, List.set_cons_succ]
    refine wpAnyH_take (i := 2) (v := ?_) rfl (by kernel_rfl) (by kernel_rfl) (by kernel_rfl) (fun _ _ _ h => h) (Or.inl ⟨by rfl, ?yds3⟩) (by assumption) ?qds3
    case yds3 => (intro wz hSw; (try dsimp only at hSw); go_simp <;> with_reducible rfl)
    try simp only [Act.put, List.getElem_toArray, List.getElem_cons_zero, List.getElem_cons_succ, List.setIfInBounds_toArray, List.set_cons_zero, List.set_cons_succ]
    refine wpAnyH_take (i := 5) (v := ?_) rfl (by kernel_rfl) (by kernel_rfl) (by kernel_rfl) (fun _ _ _ h => h) (Or.inl ⟨by rfl, ?yds4⟩) (by assumption) ?qds4
    case yds4 => (intro wz hSw; (try dsimp only at hSw); go_simp <;> with_reducible rfl)
    try simp only [Act.put, List.getElem_toArray, List.getElem_cons_zero, List.getElem_cons_succ, List.setIfInBounds_toArray, List.set_cons_zero, List.set_cons_succ]
    refine wpAnyH_ready (rs := [3, 10]) (by kernel_rfl) (by simp) ?_
    refine AllReadyH.cons rfl (fun K hK => ?bds5) ?cds5
    case bds5 =>
      go_simp
      refine (HNODES.out _ HB.out).mono ?_
      rintro e u5 ⟨rfl, hb⟩
      replace FR := Lib.hid (FR.out.below hb)
      replace HB := Lib.hid (hbt HB.out hb)
      clear hb
      refine hK.out _ _ (rc_of FR.out.2) (fun hHeld5 => ?_)
      clear hK K
      try simp only [Act.put, List.getElem_toArray, List.getElem_cons_zero, List.getElem_cons_succ, List.setIfInBounds_toArray, List.set_cons_zero, List.set_cons_succ]
      refine wpAnyH_ready (rs := [4, 6, 10]) (by kernel_rfl) (by simp) ?_
      refine AllReadyH.cons rfl (fun K hK => ?bds6) ?cds6
      case bds6 =>
        go_simp
        obtain ⟨g4, hg⟩ : ∃ g, g = u5.heap.size := ⟨_, rfl⟩
        obtain ⟨u6, hu⟩ : ∃ X, X = u5.alloc (.cells (madeCells #[.int .i64 0, .int .i64 0] (n * 2)) 65) := ⟨_, rfl⟩
        have hb : Below u5.heap.size u5 u6 := by rw [hu]; exact (Below.refl _ _).alloc (Nat.le_refl _) _
        rw [← hg, ← hu]
        have F4 := Lib.hid (CF.new HB.out.size hg hu)
        replace FR := Lib.hid (FR.out.below hb)
        replace HB := Lib.hid (hbt HB.out hb)
        clear hb hg hu
        refine hK.out _ _ (rc_of FR.out.2) (fun hHeld6 => ?_)
        clear hK K
        try simp only [Act.put, List.getElem_toArray, List.getElem_cons_zero, List.getElem_cons_succ, List.setIfInBounds_toArray, List.set_cons_zero, List.set_cons_succ]
        refine wpAnyH_ready (rs := [6, 10]) (by kernel_rfl) (by simp) ?_
        refine AllReadyH.cons rfl (fun K hK => ?bds7) ?cds7
        case bds7 =>
          go_simp
          refine (HNODES.out _ HB.out).mono ?_
          rintro e u7 ⟨rfl, hb⟩
          replace F4 := Lib.hid (F4.out.below hb)
          replace FR := Lib.hid (FR.out.below hb)
          replace HB := Lib.hid (hbt HB.out hb)
          clear hb
          refine hK.out _ _ (rc_of FR.out.2) (fun hHeld7 => ?_)
          clear hK K
          try simp only [Act.put, List.getElem_toArray, List.getElem_cons_zero, List.getElem_cons_succ, List.setIfInBounds_toArray, List.set_cons_zero, List.set_cons_succ]
          refine wpAnyH_take (i := 7) (v := ?_) rfl (by kernel_rfl) (by kernel_rfl) (by kernel_rfl) (fun _ _ _ h => h) (Or.inl ⟨by rfl, ?yds8⟩) (by assumption) ?qds8
          case yds8 => (intro wz hSw; (try dsimp only at hSw); go_simp <;> with_reducible rfl)
          try simp only [Act.put, List.getElem_toArray, List.getElem_cons_zero, List.getElem_cons_succ, List.setIfInBounds_toArray, List.set_cons_zero, List.set_cons_succ]
          refine wpAnyH_ready (rs := [8, 10]) (by kernel_rfl) (by simp) ?_
          refine AllReadyH.cons rfl (fun K hK => ?bds9) ?cds9
          case bds9 =>
            go_simp
            rw [HW2.out]
            refine (HQN.out _).mono ?_
            rintro e u9 ⟨g8, rfl, hq, hb⟩
            have F8 := Lib.hid (hq w HB.out.size)
            replace F4 := Lib.hid (F4.out.below hb)
            replace FR := Lib.hid (FR.out.below hb)
            replace HB := Lib.hid (hbt HB.out hb)
            clear hb hq
            refine hK.out _ _ (rc_of FR.out.2) (fun hHeld9 => ?_)
            clear hK K
            try simp only [Act.put, List.getElem_toArray, List.getElem_cons_zero, List.getElem_cons_succ, List.setIfInBounds_toArray, List.set_cons_zero, List.set_cons_succ]
            refine wpAnyH_take (i := 9) (v := ?_) rfl (by kernel_rfl) (by kernel_rfl) (by kernel_rfl) (fun _ _ _ h => h) (Or.inl ⟨by rfl, ?yds10⟩) (by assumption) ?qds10
            case yds10 => (intro wz hSw; (try dsimp only at hSw); go_simp <;> with_reducible rfl)
            try simp only [Act.put, List.getElem_toArray, List.getElem_cons_zero, List.getElem_cons_succ, List.setIfInBounds_toArray, List.set_cons_zero, List.set_cons_succ]
            refine wpAnyH_ready (rs := [10]) (by kernel_rfl) (by simp) ?_
            refine AllReadyH.cons rfl (fun K hK => ?_) AllReadyH.nil
            go_simp
            obtain ⟨g10, hg⟩ : ∃ g, g = u9.heap.size := ⟨_, rfl⟩
            obtain ⟨u11, hu⟩ : ∃ X, X = u9.alloc (.cells #[.int .i64 0, .int .i64 0, .int .i64 0, .pointer none, .slice none 0 0, .pointer none] 64) := ⟨_, rfl⟩
            have hb : Below u9.heap.size u9 u11 := by rw [hu]; exact (Below.refl _ _).alloc (Nat.le_refl _) _
            rw [← hg, ← hu]
            have F10 := Lib.hid (CF.new HB.out.size hg hu)
            replace F4 := Lib.hid (F4.out.below hb)
            replace F8 := Lib.hid (F8.out.below hb)
            replace FR := Lib.hid (FR.out.below hb)
            replace HB := Lib.hid (hbt HB.out hb)
            clear hb hg hu
            refine hK.out _ _ (rc_of FR.out.2) (fun hHeld11 => ?_)
            clear hK K
            try simp only [Act.put, List.getElem_toArray, List.getElem_cons_zero, List.getElem_cons_succ, List.setIfInBounds_toArray, List.set_cons_zero, List.set_cons_succ]
            refine wpAnyH_ready (rs := [11]) (by kernel_rfl) (by simp) ?_
            refine AllReadyH.cons rfl (fun K hK => ?_) AllReadyH.nil
            rw [if_pos (by rfl)]
            refine wp_store_srch (.tmp 9) (.tmp 24) rfl ⟨g10, g4, g8, 0⟩ n mask must least pg _ rfl rfl F10.out.2 rfl ?_
            intro u12 hst
            have HEND := Lib.hid (D0.new HN4.out HB.out F4.out F8.out F10.out (fun gr => hst))
            have hR := rc_of ((hst.2.2.2.2.2 gR (FR.out.ne F10.out (by decide))).trans FR.out.2)
            clear hst
            refine hK.out _ _ (hR) (fun hHeld12 => ?_)
            clear hK K
            try simp only [Act.put, List.getElem_toArray, List.getElem_cons_zero, List.getElem_cons_succ]
            refine wpAnyH_done (by kernel_rfl) ?_ _
            obtain ⟨gr, hD, hB⟩ := HEND.out
            exact HJ.out g4 g8 g10 u12 ⟨⟨gr, hD⟩, hB⟩
          refine AllReadyH.cons rfl (fun K hK => ?bds13) ?cds13
          case bds13 =>
            go_simp
            obtain ⟨g10, hg⟩ : ∃ g, g = u7.heap.size := ⟨_, rfl⟩
            obtain ⟨u13, hu⟩ : ∃ X, X = u7.alloc (.cells #[.int .i64 0, .int .i64 0, .int .i64 0, .pointer none, .slice none 0 0, .pointer none] 64) := ⟨_, rfl⟩
            have hb : Below u7.heap.size u7 u13 := by rw [hu]; exact (Below.refl _ _).alloc (Nat.le_refl _) _
            rw [← hg, ← hu]
            have F10 := Lib.hid (CF.new HB.out.size hg hu)
            replace F4 := Lib.hid (F4.out.below hb)
            replace FR := Lib.hid (FR.out.below hb)
            replace HB := Lib.hid (hbt HB.out hb)
            clear hb hg hu
            refine hK.out _ _ (rc_of FR.out.2) (fun hHeld13 => ?_)
            clear hK K
            try simp only [Act.put, List.getElem_toArray, List.getElem_cons_zero, List.getElem_cons_succ, List.setIfInBounds_toArray, List.set_cons_zero, List.set_cons_succ]
            refine wpAnyH_ready (rs := [8]) (by kernel_rfl) (by simp) ?_
            refine AllReadyH.cons rfl (fun K hK => ?_) AllReadyH.nil
            go_simp
            rw [HW2.out]
            refine (HQN.out _).mono ?_
            rintro e u14 ⟨g8, rfl, hq, hb⟩
            have F8 := Lib.hid (hq w HB.out.size)
            replace F4 := Lib.hid (F4.out.below hb)
            replace F10 := Lib.hid (F10.out.below hb)
            replace FR := Lib.hid (FR.out.below hb)
            replace HB := Lib.hid (hbt HB.out hb)
            clear hb hq
            refine hK.out _ _ (rc_of FR.out.2) (fun hHeld14 => ?_)
            clear hK K
            try simp only [Act.put, List.getElem_toArray, List.getElem_cons_zero, List.getElem_cons_succ, List.setIfInBounds_toArray, List.set_cons_zero, List.set_cons_succ]
            refine wpAnyH_take (i := 9) (v := ?_) rfl (by kernel_rfl) (by kernel_rfl) (by kernel_rfl) (fun _ _ _ h => h) (Or.inl ⟨by rfl, ?yds15⟩) (by assumption) ?qds15
            case yds15 => (intro wz hSw; (try dsimp only at hSw); go_simp <;> with_reducible rfl)
            try simp only [Act.put, List.getElem_toArray, List.getElem_cons_zero, List.getElem_cons_succ, List.setIfInBounds_toArray, List.set_cons_zero, List.set_cons_succ]
            refine wpAnyH_ready (rs := [11]) (by kernel_rfl) (by simp) ?_
            refine AllReadyH.cons rfl (fun K hK => ?_) AllReadyH.nil
            rw [if_pos (by rfl)]
            refine wp_store_srch (.tmp 9) (.tmp 24) rfl ⟨g10, g4, g8, 0⟩ n mask must least pg _ rfl rfl F10.out.2 rfl ?_
            intro u16 hst
            have HEND := Lib.hid (D0.new HN4.out HB.out F4.out F8.out F10.out (fun gr => hst))
            have hR := rc_of ((hst.2.2.2.2.2 gR (FR.out.ne F10.out (by decide))).trans FR.out.2)
            clear hst
            refine hK.out _ _ (hR) (fun hHeld16 => ?_)
            clear hK K
            try simp only [Act.put, List.getElem_toArray, List.getElem_cons_zero, List.getElem_cons_succ]
            refine wpAnyH_done (by kernel_rfl) ?_ _
            obtain ⟨gr, hD, hB⟩ := HEND.out
            exact HJ.out g4 g8 g10 u16 ⟨⟨gr, hD⟩, hB⟩
          exact AllReadyH.nil
        refine AllReadyH.cons rfl (fun K hK => ?bds17) ?cds17
        case bds17 =>
          go_simp
          obtain ⟨g10, hg⟩ : ∃ g, g = u6.heap.size := ⟨_, rfl⟩
          obtain ⟨u17, hu⟩ : ∃ X, X = u6.alloc (.cells #[.int .i64 0, .int .i64 0, .int .i64 0, .pointer none, .slice none 0 0, .pointer none] 64) := ⟨_, rfl⟩
          have hb : Below u6.heap.size u6 u17 := by rw [hu]; exact (Below.refl _ _).alloc (Nat.le_refl _) _
          rw [← hg, ← hu]
          have F10 := Lib.hid (CF.new HB.out.size hg hu)
          replace F4 := Lib.hid (F4.out.below hb)
          replace FR := Lib.hid (FR.out.below hb)
          replace HB := Lib.hid (hbt HB.out hb)
          clear hb hg hu
          refine hK.out _ _ (rc_of FR.out.2) (fun hHeld17 => ?_)
          clear hK K
          try simp only [Act.put, List.getElem_toArray, List.getElem_cons_zero, List.getElem_cons_succ, List.setIfInBounds_toArray, List.set_cons_zero, List.set_cons_succ]
          refine wpAnyH_ready (rs := [6]) (by kernel_rfl) (by simp) ?_
          refine AllReadyH.cons rfl (fun K hK => ?_) AllReadyH.nil
          go_simp
          refine (HNODES.out _ HB.out).mono ?_
          rintro e u18 ⟨rfl, hb⟩
          replace F4 := Lib.hid (F4.out.below hb)
          replace F10 := Lib.hid (F10.out.below hb)
          replace FR := Lib.hid (FR.out.below hb)
          replace HB := Lib.hid (hbt HB.out hb)
          clear hb
          refine hK.out _ _ (rc_of FR.out.2) (fun hHeld18 => ?_)
          clear hK K
          try simp only [Act.put, List.getElem_toArray, List.getElem_cons_zero, List.getElem_cons_succ, List.setIfInBounds_toArray, List.set_cons_zero, List.set_cons_succ]
          refine wpAnyH_take (i := 7) (v := ?_) rfl (by kernel_rfl) (by kernel_rfl) (by kernel_rfl) (fun _ _ _ h => h) (Or.inl ⟨by rfl, ?yds19⟩) (by assumption) ?qds19
          case yds19 => (intro wz hSw; (try dsimp only at hSw); go_simp <;> with_reducible rfl)
          try simp only [Act.put, List.getElem_toArray, List.getElem_cons_zero, List.getElem_cons_succ, List.setIfInBounds_toArray, List.set_cons_zero, List.set_cons_succ]
          refine wpAnyH_ready (rs := [8]) (by kernel_rfl) (by simp) ?_
          refine AllReadyH.cons rfl (fun K hK => ?_) AllReadyH.nil
          go_simp
          rw [HW2.out]
          refine (HQN.out _).mono ?_
          rintro e u20 ⟨g8, rfl, hq, hb⟩
          have F8 := Lib.hid (hq w HB.out.size)
          replace F4 := Lib.hid (F4.out.below hb)
          replace F10 := Lib.hid (F10.out.below hb)
          replace FR := Lib.hid (FR.out.below hb)
          replace HB := Lib.hid (hbt HB.out hb)
          clear hb hq
          refine hK.out _ _ (rc_of FR.out.2) (fun hHeld20 => ?_)
          clear hK K
          try simp only [Act.put, List.getElem_toArray, List.getElem_cons_zero, List.getElem_cons_succ, List.setIfInBounds_toArray, List.set_cons_zero, List.set_cons_succ]
          refine wpAnyH_take (i := 9) (v := ?_) rfl (by kernel_rfl) (by kernel_rfl) (by kernel_rfl) (fun _ _ _ h => h) (Or.inl ⟨by rfl, ?yds21⟩) (by assumption) ?qds21
          case yds21 => (intro wz hSw; (try dsimp only at hSw); go_simp <;> with_reducible rfl)
          try simp only [Act.put, List.getElem_toArray, List.getElem_cons_zero, List.getElem_cons_succ, List.setIfInBounds_toArray, List.set_cons_zero, List.set_cons_succ]
          refine wpAnyH_ready (rs := [11]) (by kernel_rfl) (by simp) ?_
          refine AllReadyH.cons rfl (fun K hK => ?_) AllReadyH.nil
          rw [if_pos (by rfl)]
          refine wp_store_srch (.tmp 9) (.tmp 24) rfl ⟨g10, g4, g8, 0⟩ n mask must least pg _ rfl rfl F10.out.2 rfl ?_
          intro u22 hst
          have HEND := Lib.hid (D0.new HN4.out HB.out F4.out F8.out F10.out (fun gr => hst))
          have hR := rc_of ((hst.2.2.2.2.2 gR (FR.out.ne F10.out (by decide))).trans FR.out.2)
          clear hst
          refine hK.out _ _ (hR) (fun hHeld22 => ?_)
          clear hK K
          try simp only [Act.put, List.getElem_toArray, List.getElem_cons_zero, List.getElem_cons_succ]
          refine wpAnyH_done (by kernel_rfl) ?_ _
          obtain ⟨gr, hD, hB⟩ := HEND.out
          exact HJ.out g4 g8 g10 u22 ⟨⟨gr, hD⟩, hB⟩
        exact AllReadyH.nil
      refine AllReadyH.cons rfl (fun K hK => ?bds23) ?cds23
      case bds23 =>
        go_simp
        refine (HNODES.out _ HB.out).mono ?_
        rintro e u23 ⟨rfl, hb⟩
        replace FR := Lib.hid (FR.out.below hb)
        replace HB := Lib.hid (hbt HB.out hb)
        clear hb
        refine hK.out _ _ (rc_of FR.out.2) (fun hHeld23 => ?_)
        clear hK K
        try simp only [Act.put, List.getElem_toArray, List.getElem_cons_zero, List.getElem_cons_succ, List.setIfInBounds_toArray, List.set_cons_zero, List.set_cons_succ]
        refine wpAnyH_take (i := 7) (v := ?_) rfl (by kernel_rfl) (by kernel_rfl) (by kernel_rfl) (fun _ _ _ h => h) (Or.inl ⟨by rfl, ?yds24⟩) (by assumption) ?qds24
        case yds24 => (intro wz hSw; (try dsimp only at hSw); go_simp <;> with_reducible rfl)
        try simp only [Act.put, List.getElem_toArray, List.getElem_cons_zero, List.getElem_cons_succ, List.setIfInBounds_toArray, List.set_cons_zero, List.set_cons_succ]
        refine wpAnyH_ready (rs := [4, 8, 10]) (by kernel_rfl) (by simp) ?_
        refine AllReadyH.cons rfl (fun K hK => ?bds25) ?cds25
        case bds25 =>
          go_simp
          obtain ⟨g4, hg⟩ : ∃ g, g = u23.heap.size := ⟨_, rfl⟩
          obtain ⟨u25, hu⟩ : ∃ X, X = u23.alloc (.cells (madeCells #[.int .i64 0, .int .i64 0] (n * 2)) 65) := ⟨_, rfl⟩
          have hb : Below u23.heap.size u23 u25 := by rw [hu]; exact (Below.refl _ _).alloc (Nat.le_refl _) _
          rw [← hg, ← hu]
          have F4 := Lib.hid (CF.new HB.out.size hg hu)
          replace FR := Lib.hid (FR.out.below hb)
          replace HB := Lib.hid (hbt HB.out hb)
          clear hb hg hu
          refine hK.out _ _ (rc_of FR.out.2) (fun hHeld25 => ?_)
          clear hK K
          try simp only [Act.put, List.getElem_toArray, List.getElem_cons_zero, List.getElem_cons_succ, List.setIfInBounds_toArray, List.set_cons_zero, List.set_cons_succ]
          refine wpAnyH_ready (rs := [8, 10]) (by kernel_rfl) (by simp) ?_
          refine AllReadyH.cons rfl (fun K hK => ?bds26) ?cds26
          case bds26 =>
            go_simp
            rw [HW2.out]
            refine (HQN.out _).mono ?_
            rintro e u26 ⟨g8, rfl, hq, hb⟩
            have F8 := Lib.hid (hq w HB.out.size)
            replace F4 := Lib.hid (F4.out.below hb)
            replace FR := Lib.hid (FR.out.below hb)
            replace HB := Lib.hid (hbt HB.out hb)
            clear hb hq
            refine hK.out _ _ (rc_of FR.out.2) (fun hHeld26 => ?_)
            clear hK K
            try simp only [Act.put, List.getElem_toArray, List.getElem_cons_zero, List.getElem_cons_succ, List.setIfInBounds_toArray, List.set_cons_zero, List.set_cons_succ]
            refine wpAnyH_take (i := 9) (v := ?_) rfl (by kernel_rfl) (by kernel_rfl) (by kernel_rfl) (fun _ _ _ h => h) (Or.inl ⟨by rfl, ?yds27⟩) (by assumption) ?qds27
            case yds27 => (intro wz hSw; (try dsimp only at hSw); go_simp <;> with_reducible rfl)
            try simp only [Act.put, List.getElem_toArray, List.getElem_cons_zero, List.getElem_cons_succ, List.setIfInBounds_toArray, List.set_cons_zero, List.set_cons_succ]
            refine wpAnyH_ready (rs := [10]) (by kernel_rfl) (by simp) ?_
            refine AllReadyH.cons rfl (fun K hK => ?_) AllReadyH.nil
            go_simp
            obtain ⟨g10, hg⟩ : ∃ g, g = u26.heap.size := ⟨_, rfl⟩
            obtain ⟨u28, hu⟩ : ∃ X, X = u26.alloc (.cells #[.int .i64 0, .int .i64 0, .int .i64 0, .pointer none, .slice none 0 0, .pointer none] 64) := ⟨_, rfl⟩
            have hb : Below u26.heap.size u26 u28 := by rw [hu]; exact (Below.refl _ _).alloc (Nat.le_refl _) _
            rw [← hg, ← hu]
            have F10 := Lib.hid (CF.new HB.out.size hg hu)
            replace F4 := Lib.hid (F4.out.below hb)
            replace F8 := Lib.hid (F8.out.below hb)
            replace FR := Lib.hid (FR.out.below hb)
            replace HB := Lib.hid (hbt HB.out hb)
            clear hb hg hu
            refine hK.out _ _ (rc_of FR.out.2) (fun hHeld28 => ?_)
            clear hK K
            try simp only [Act.put, List.getElem_toArray, List.getElem_cons_zero, List.getElem_cons_succ, List.setIfInBounds_toArray, List.set_cons_zero, List.set_cons_succ]
            refine wpAnyH_ready (rs := [11]) (by kernel_rfl) (by simp) ?_
            refine AllReadyH.cons rfl (fun K hK => ?_) AllReadyH.nil
            rw [if_pos (by rfl)]
            refine wp_store_srch (.tmp 9) (.tmp 24) rfl ⟨g10, g4, g8, 0⟩ n mask must least pg _ rfl rfl F10.out.2 rfl ?_
            intro u29 hst
            have HEND := Lib.hid (D0.new HN4.out HB.out F4.out F8.out F10.out (fun gr => hst))
            have hR := rc_of ((hst.2.2.2.2.2 gR (FR.out.ne F10.out (by decide))).trans FR.out.2)
            clear hst
            refine hK.out _ _ (hR) (fun hHeld29 => ?_)
            clear hK K
            try simp only [Act.put, List.getElem_toArray, List.getElem_cons_zero, List.getElem_cons_succ]
            refine wpAnyH_done (by kernel_rfl) ?_ _
            obtain ⟨gr, hD, hB⟩ := HEND.out
            exact HJ.out g4 g8 g10 u29 ⟨⟨gr, hD⟩, hB⟩
          refine AllReadyH.cons rfl (fun K hK => ?bds30) ?cds30
          case bds30 =>
            go_simp
            obtain ⟨g10, hg⟩ : ∃ g, g = u25.heap.size := ⟨_, rfl⟩
            obtain ⟨u30, hu⟩ : ∃ X, X = u25.alloc (.cells #[.int .i64 0, .int .i64 0, .int .i64 0, .pointer none, .slice none 0 0, .pointer none] 64) := ⟨_, rfl⟩
            have hb : Below u25.heap.size u25 u30 := by rw [hu]; exact (Below.refl _ _).alloc (Nat.le_refl _) _
            rw [← hg, ← hu]
            have F10 := Lib.hid (CF.new HB.out.size hg hu)
            replace F4 := Lib.hid (F4.out.below hb)
            replace FR := Lib.hid (FR.out.below hb)
            replace HB := Lib.hid (hbt HB.out hb)
            clear hb hg hu
            refine hK.out _ _ (rc_of FR.out.2) (fun hHeld30 => ?_)
            clear hK K
            try simp only [Act.put, List.getElem_toArray, List.getElem_cons_zero, List.getElem_cons_succ, List.setIfInBounds_toArray, List.set_cons_zero, List.set_cons_succ]
            refine wpAnyH_ready (rs := [8]) (by kernel_rfl) (by simp) ?_
            refine AllReadyH.cons rfl (fun K hK => ?_) AllReadyH.nil
            go_simp
            rw [HW2.out]
            refine (HQN.out _).mono ?_
            rintro e u31 ⟨g8, rfl, hq, hb⟩
            have F8 := Lib.hid (hq w HB.out.size)
            replace F4 := Lib.hid (F4.out.below hb)
            replace F10 := Lib.hid (F10.out.below hb)
            replace FR := Lib.hid (FR.out.below hb)
            replace HB := Lib.hid (hbt HB.out hb)
            clear hb hq
            refine hK.out _ _ (rc_of FR.out.2) (fun hHeld31 => ?_)
            clear hK K
            try simp only [Act.put, List.getElem_toArray, List.getElem_cons_zero, List.getElem_cons_succ, List.setIfInBounds_toArray, List.set_cons_zero, List.set_cons_succ]
            refine wpAnyH_take (i := 9) (v := ?_) rfl (by kernel_rfl) (by kernel_rfl) (by kernel_rfl) (fun _ _ _ h => h) (Or.inl ⟨by rfl, ?yds32⟩) (by assumption) ?qds32
            case yds32 => (intro wz hSw; (try dsimp only at hSw); go_simp <;> with_reducible rfl)
            try simp only [Act.put, List.getElem_toArray, List.getElem_cons_zero, List.getElem_cons_succ, List.setIfInBounds_toArray, List.set_cons_zero, List.set_cons_succ]
            refine wpAnyH_ready (rs := [11]) (by kernel_rfl) (by simp) ?_
            refine AllReadyH.cons rfl (fun K hK => ?_) AllReadyH.nil
            rw [if_pos (by rfl)]
            refine wp_store_srch (.tmp 9) (.tmp 24) rfl ⟨g10, g4, g8, 0⟩ n mask must least pg _ rfl rfl F10.out.2 rfl ?_
            intro u33 hst
            have HEND := Lib.hid (D0.new HN4.out HB.out F4.out F8.out F10.out (fun gr => hst))
            have hR := rc_of ((hst.2.2.2.2.2 gR (FR.out.ne F10.out (by decide))).trans FR.out.2)
            clear hst
            refine hK.out _ _ (hR) (fun hHeld33 => ?_)
            clear hK K
            try simp only [Act.put, List.getElem_toArray, List.getElem_cons_zero, List.getElem_cons_succ]
            refine wpAnyH_done (by kernel_rfl) ?_ _
            obtain ⟨gr, hD, hB⟩ := HEND.out
            exact HJ.out g4 g8 g10 u33 ⟨⟨gr, hD⟩, hB⟩
          exact AllReadyH.nil
        refine AllReadyH.cons rfl (fun K hK => ?bds34) ?cds34
        case bds34 =>
          go_simp
          rw [HW2.out]
          refine (HQN.out _).mono ?_
          rintro e u34 ⟨g8, rfl, hq, hb⟩
          have F8 := Lib.hid (hq w HB.out.size)
          replace FR := Lib.hid (FR.out.below hb)
          replace HB := Lib.hid (hbt HB.out hb)
          clear hb hq
          refine hK.out _ _ (rc_of FR.out.2) (fun hHeld34 => ?_)
          clear hK K
          try simp only [Act.put, List.getElem_toArray, List.getElem_cons_zero, List.getElem_cons_succ, List.setIfInBounds_toArray, List.set_cons_zero, List.set_cons_succ]
          refine wpAnyH_ready (rs := [4, 10]) (by kernel_rfl) (by simp) ?_
          refine AllReadyH.cons rfl (fun K hK => ?bds35) ?cds35
          case bds35 =>
            go_simp
            obtain ⟨g4, hg⟩ : ∃ g, g = u34.heap.size := ⟨_, rfl⟩
            obtain ⟨u35, hu⟩ : ∃ X, X = u34.alloc (.cells (madeCells #[.int .i64 0, .int .i64 0] (n * 2)) 65) := ⟨_, rfl⟩
            have hb : Below u34.heap.size u34 u35 := by rw [hu]; exact (Below.refl _ _).alloc (Nat.le_refl _) _
            rw [← hg, ← hu]
            have F4 := Lib.hid (CF.new HB.out.size hg hu)
            replace F8 := Lib.hid (F8.out.below hb)
            replace FR := Lib.hid (FR.out.below hb)
            replace HB := Lib.hid (hbt HB.out hb)
            clear hb hg hu
            refine hK.out _ _ (rc_of FR.out.2) (fun hHeld35 => ?_)
            clear hK K
            try simp only [Act.put, List.getElem_toArray, List.getElem_cons_zero, List.getElem_cons_succ, List.setIfInBounds_toArray, List.set_cons_zero, List.set_cons_succ]
            refine wpAnyH_take (i := 9) (v := ?_) rfl (by kernel_rfl) (by kernel_rfl) (by kernel_rfl) (fun _ _ _ h => h) (Or.inl ⟨by rfl, ?yds36⟩) (by assumption) ?qds36
            case yds36 => (intro wz hSw; (try dsimp only at hSw); go_simp <;> with_reducible rfl)
            try simp only [Act.put, List.getElem_toArray, List.getElem_cons_zero, List.getElem_cons_succ, List.setIfInBounds_toArray, List.set_cons_zero, List.set_cons_succ]
            refine wpAnyH_ready (rs := [10]) (by kernel_rfl) (by simp) ?_
            refine AllReadyH.cons rfl (fun K hK => ?_) AllReadyH.nil
            go_simp
            obtain ⟨g10, hg⟩ : ∃ g, g = u35.heap.size := ⟨_, rfl⟩
            obtain ⟨u37, hu⟩ : ∃ X, X = u35.alloc (.cells #[.int .i64 0, .int .i64 0, .int .i64 0, .pointer none, .slice none 0 0, .pointer none] 64) := ⟨_, rfl⟩
            have hb : Below u35.heap.size u35 u37 := by rw [hu]; exact (Below.refl _ _).alloc (Nat.le_refl _) _
            rw [← hg, ← hu]
            have F10 := Lib.hid (CF.new HB.out.size hg hu)
            replace F4 := Lib.hid (F4.out.below hb)
            replace F8 := Lib.hid (F8.out.below hb)
            replace FR := Lib.hid (FR.out.below hb)
            replace HB := Lib.hid (hbt HB.out hb)
            clear hb hg hu
            refine hK.out _ _ (rc_of FR.out.2) (fun hHeld37 => ?_)
            clear hK K
            try simp only [Act.put, List.getElem_toArray, List.getElem_cons_zero, List.getElem_cons_succ, List.setIfInBounds_toArray, List.set_cons_zero, List.set_cons_succ]
            refine wpAnyH_ready (rs := [11]) (by kernel_rfl) (by simp) ?_
            refine AllReadyH.cons rfl (fun K hK => ?_) AllReadyH.nil
            rw [if_pos (by rfl)]
            refine wp_store_srch (.tmp 9) (.tmp 24) rfl ⟨g10, g4, g8, 0⟩ n mask must least pg _ rfl rfl F10.out.2 rfl ?_
            intro u38 hst
            have HEND := Lib.hid (D0.new HN4.out HB.out F4.out F8.out F10.out (fun gr => hst))
            have hR := rc_of ((hst.2.2.2.2.2 gR (FR.out.ne F10.out (by decide))).trans FR.out.2)
            clear hst
            refine hK.out _ _ (hR) (fun hHeld38 => ?_)
            clear hK K
            try simp only [Act.put, List.getElem_toArray, List.getElem_cons_zero, List.getElem_cons_succ]
            refine wpAnyH_done (by kernel_rfl) ?_ _
            obtain ⟨gr, hD, hB⟩ := HEND.out
            exact HJ.out g4 g8 g10 u38 ⟨⟨gr, hD⟩, hB⟩
          refine AllReadyH.cons rfl (fun K hK => ?bds39) ?cds39
          case bds39 =>
            go_simp
            obtain ⟨g10, hg⟩ : ∃ g, g = u34.heap.size := ⟨_, rfl⟩
            obtain ⟨u39, hu⟩ : ∃ X, X = u34.alloc (.cells #[.int .i64 0, .int .i64 0, .int .i64 0, .pointer none, .slice none 0 0, .pointer none] 64) := ⟨_, rfl⟩
            have hb : Below u34.heap.size u34 u39 := by rw [hu]; exact (Below.refl _ _).alloc (Nat.le_refl _) _
            rw [← hg, ← hu]
            have F10 := Lib.hid (CF.new HB.out.size hg hu)
            replace F8 := Lib.hid (F8.out.below hb)
            replace FR := Lib.hid (FR.out.below hb)
            replace HB := Lib.hid (hbt HB.out hb)
            clear hb hg hu
            refine hK.out _ _ (rc_of FR.out.2) (fun hHeld39 => ?_)
            clear hK K
            try simp only [Act.put, List.getElem_toArray, List.getElem_cons_zero, List.getElem_cons_succ, List.setIfInBounds_toArray, List.set_cons_zero, List.set_cons_succ]
            refine wpAnyH_ready (rs := [4]) (by kernel_rfl) (by simp) ?_
            refine AllReadyH.cons rfl (fun K hK => ?_) AllReadyH.nil
            go_simp
            obtain ⟨g4, hg⟩ : ∃ g, g = u39.heap.size := ⟨_, rfl⟩
            obtain ⟨u40, hu⟩ : ∃ X, X = u39.alloc (.cells (madeCells #[.int .i64 0, .int .i64 0] (n * 2)) 65) := ⟨_, rfl⟩
            have hb : Below u39.heap.size u39 u40 := by rw [hu]; exact (Below.refl _ _).alloc (Nat.le_refl _) _
            rw [← hg, ← hu]
            have F4 := Lib.hid (CF.new HB.out.size hg hu)
            replace F8 := Lib.hid (F8.out.below hb)
            replace F10 := Lib.hid (F10.out.below hb)
            replace FR := Lib.hid (FR.out.below hb)
            replace HB := Lib.hid (hbt HB.out hb)
            clear hb hg hu
            refine hK.out _ _ (rc_of FR.out.2) (fun hHeld40 => ?_)
            clear hK K
            try simp only [Act.put, List.getElem_toArray, List.getElem_cons_zero, List.getElem_cons_succ, List.setIfInBounds_toArray, List.set_cons_zero, List.set_cons_succ]
            refine wpAnyH_take (i := 9) (v := ?_) rfl (by kernel_rfl) (by kernel_rfl) (by kernel_rfl) (fun _ _ _ h => h) (Or.inl ⟨by rfl, ?yds41⟩) (by assumption) ?qds41
            case yds41 => (intro wz hSw; (try dsimp only at hSw); go_simp <;> with_reducible rfl)
            try simp only [Act.put, List.getElem_toArray, List.getElem_cons_zero, List.getElem_cons_succ, List.setIfInBounds_toArray, List.set_cons_zero, List.set_cons_succ]
            refine wpAnyH_ready (rs := [11]) (by kernel_rfl) (by simp) ?_
            refine AllReadyH.cons rfl (fun K hK => ?_) AllReadyH.nil
            rw [if_pos (by rfl)]
            refine wp_store_srch (.tmp 9) (.tmp 24) rfl ⟨g10, g4, g8, 0⟩ n mask must least pg _ rfl rfl F10.out.2 rfl ?_
            intro u42 hst
            have HEND := Lib.hid (D0.new HN4.out HB.out F4.out F8.out F10.out (fun gr => hst))
            have hR := rc_of ((hst.2.2.2.2.2 gR (FR.out.ne F10.out (by decide))).trans FR.out.2)
            clear hst
            refine hK.out _ _ (hR) (fun hHeld42 => ?_)
            clear hK K
            try simp only [Act.put, List.getElem_toArray, List.getElem_cons_zero, List.getElem_cons_succ]
            refine wpAnyH_done (by kernel_rfl) ?_ _
            obtain ⟨gr, hD, hB⟩ := HEND.out
            exact HJ.out g4 g8 g10 u42 ⟨⟨gr, hD⟩, hB⟩
          exact AllReadyH.nil
        refine AllReadyH.cons rfl (fun K hK => ?bds43) ?cds43
        case bds43 =>
          go_simp
          obtain ⟨g10, hg⟩ : ∃ g, g = u23.heap.size := ⟨_, rfl⟩
          obtain ⟨u43, hu⟩ : ∃ X, X = u23.alloc (.cells #[.int .i64 0, .int .i64 0, .int .i64 0, .pointer none, .slice none 0 0, .pointer none] 64) := ⟨_, rfl⟩
          have hb : Below u23.heap.size u23 u43 := by rw [hu]; exact (Below.refl _ _).alloc (Nat.le_refl _) _
          rw [← hg, ← hu]
          have F10 := Lib.hid (CF.new HB.out.size hg hu)
          replace FR := Lib.hid (FR.out.below hb)
          replace HB := Lib.hid (hbt HB.out hb)
          clear hb hg hu
          refine hK.out _ _ (rc_of FR.out.2) (fun hHeld43 => ?_)
          clear hK K
          try simp only [Act.put, List.getElem_toArray, List.getElem_cons_zero, List.getElem_cons_succ, List.setIfInBounds_toArray, List.set_cons_zero, List.set_cons_succ]
          refine wpAnyH_ready (rs := [4, 8]) (by kernel_rfl) (by simp) ?_
          refine AllReadyH.cons rfl (fun K hK => ?bds44) ?cds44
          case bds44 =>
            go_simp
            obtain ⟨g4, hg⟩ : ∃ g, g = u43.heap.size := ⟨_, rfl⟩
            obtain ⟨u44, hu⟩ : ∃ X, X = u43.alloc (.cells (madeCells #[.int .i64 0, .int .i64 0] (n * 2)) 65) := ⟨_, rfl⟩
            have hb : Below u43.heap.size u43 u44 := by rw [hu]; exact (Below.refl _ _).alloc (Nat.le_refl _) _
            rw [← hg, ← hu]
            have F4 := Lib.hid (CF.new HB.out.size hg hu)
            replace F10 := Lib.hid (F10.out.below hb)
            replace FR := Lib.hid (FR.out.below hb)
            replace HB := Lib.hid (hbt HB.out hb)
            clear hb hg hu
            refine hK.out _ _ (rc_of FR.out.2) (fun hHeld44 => ?_)
            clear hK K
            try simp only [Act.put, List.getElem_toArray, List.getElem_cons_zero, List.getElem_cons_succ, List.setIfInBounds_toArray, List.set_cons_zero, List.set_cons_succ]
            refine wpAnyH_ready (rs := [8]) (by kernel_rfl) (by simp) ?_
            refine AllReadyH.cons rfl (fun K hK => ?_) AllReadyH.nil
            go_simp
            rw [HW2.out]
            refine (HQN.out _).mono ?_
            rintro e u45 ⟨g8, rfl, hq, hb⟩
            have F8 := Lib.hid (hq w HB.out.size)
            replace F4 := Lib.hid (F4.out.below hb)
            replace F10 := Lib.hid (F10.out.below hb)
            replace FR := Lib.hid (FR.out.below hb)
            replace HB := Lib.hid (hbt HB.out hb)
            clear hb hq
            refine hK.out _ _ (rc_of FR.out.2) (fun hHeld45 => ?_)
            clear hK K
            try simp only [Act.put, List.getElem_toArray, List.getElem_cons_zero, List.getElem_cons_succ, List.setIfInBounds_toArray, List.set_cons_zero, List.set_cons_succ]
            refine wpAnyH_take (i := 9) (v := ?_) rfl (by kernel_rfl) (by kernel_rfl) (by kernel_rfl) (fun _ _ _ h => h) (Or.inl ⟨by rfl, ?yds46⟩) (by assumption) ?qds46
            case yds46 => (intro wz hSw; (try dsimp only at hSw); go_simp <;> with_reducible rfl)
            try simp only [Act.put, List.getElem_toArray, List.getElem_cons_zero, List.getElem_cons_succ, List.setIfInBounds_toArray, List.set_cons_zero, List.set_cons_succ]
            refine wpAnyH_ready (rs := [11]) (by kernel_rfl) (by simp) ?_
            refine AllReadyH.cons rfl (fun K hK => ?_) AllReadyH.nil
            rw [if_pos (by rfl)]
            refine wp_store_srch (.tmp 9) (.tmp 24) rfl ⟨g10, g4, g8, 0⟩ n mask must least pg _ rfl rfl F10.out.2 rfl ?_
            intro u47 hst
            have HEND := Lib.hid (D0.new HN4.out HB.out F4.out F8.out F10.out (fun gr => hst))
            have hR := rc_of ((hst.2.2.2.2.2 gR (FR.out.ne F10.out (by decide))).trans FR.out.2)
            clear hst
            refine hK.out _ _ (hR) (fun hHeld47 => ?_)
            clear hK K
            try simp only [Act.put, List.getElem_toArray, List.getElem_cons_zero, List.getElem_cons_succ]
            refine wpAnyH_done (by kernel_rfl) ?_ _
            obtain ⟨gr, hD, hB⟩ := HEND.out
            exact HJ.out g4 g8 g10 u47 ⟨⟨gr, hD⟩, hB⟩
          refine AllReadyH.cons rfl (fun K hK => ?bds48) ?cds48
          case bds48 =>
            go_simp
            rw [HW2.out]
            refine (HQN.out _).mono ?_
            rintro e u48 ⟨g8, rfl, hq, hb⟩
            have F8 := Lib.hid (hq w HB.out.size)
            replace F10 := Lib.hid (F10.out.below hb)
            replace FR := Lib.hid (FR.out.below hb)
            replace HB := Lib.hid (hbt HB.out hb)
            clear hb hq
            refine hK.out _ _ (rc_of FR.out.2) (fun hHeld48 => ?_)
            clear hK K
            try simp only [Act.put, List.getElem_toArray, List.getElem_cons_zero, List.getElem_cons_succ, List.setIfInBounds_toArray, List.set_cons_zero, List.set_cons_succ]
            refine wpAnyH_ready (rs := [4]) (by kernel_rfl) (by simp) ?_
            refine AllReadyH.cons rfl (fun K hK => ?_) AllReadyH.nil
            go_simp
            obtain ⟨g4, hg⟩ : ∃ g, g = u48.heap.size := ⟨_, rfl⟩
            obtain ⟨u49, hu⟩ : ∃ X, X = u48.alloc (.cells (madeCells #[.int .i64 0, .int .i64 0] (n * 2)) 65) := ⟨_, rfl⟩
            have hb : Below u48.heap.size u48 u49 := by rw [hu]; exact (Below.refl _ _).alloc (Nat.le_refl _) _
            rw [← hg, ← hu]
            have F4 := Lib.hid (CF.new HB.out.size hg hu)
            replace F8 := Lib.hid (F8.out.below hb)
            replace F10 := Lib.hid (F10.out.below hb)
            replace FR := Lib.hid (FR.out.below hb)
            replace HB := Lib.hid (hbt HB.out hb)
            clear hb hg hu
            refine hK.out _ _ (rc_of FR.out.2) (fun hHeld49 => ?_)
            clear hK K
            try simp only [Act.put, List.getElem_toArray, List.getElem_cons_zero, List.getElem_cons_succ, List.setIfInBounds_toArray, List.set_cons_zero, List.set_cons_succ]
            refine wpAnyH_take (i := 9) (v := ?_) rfl (by kernel_rfl) (by kernel_rfl) (by kernel_rfl) (fun _ _ _ h => h) (Or.inl ⟨by rfl, ?yds50⟩) (by assumption) ?qds50
            case yds50 => (intro wz hSw; (try dsimp only at hSw); go_simp <;> with_reducible rfl)
            try simp only [Act.put, List.getElem_toArray, List.getElem_cons_zero, List.getElem_cons_succ, List.setIfInBounds_toArray, List.set_cons_zero, List.set_cons_succ]
            refine wpAnyH_ready (rs := [11]) (by kernel_rfl) (by simp) ?_
            refine AllReadyH.cons rfl (fun K hK => ?_) AllReadyH.nil
            rw [if_pos (by rfl)]
            refine wp_store_srch (.tmp 9) (.tmp 24) rfl ⟨g10, g4, g8, 0⟩ n mask must least pg _ rfl rfl F10.out.2 rfl ?_
            intro u51 hst
            have HEND := Lib.hid (D0.new HN4.out HB.out F4.out F8.out F10.out (fun gr => hst))
            have hR := rc_of ((hst.2.2.2.2.2 gR (FR.out.ne F10.out (by decide))).trans FR.out.2)
            clear hst
            refine hK.out _ _ (hR) (fun hHeld51 => ?_)
            clear hK K
            try simp only [Act.put, List.getElem_toArray, List.getElem_cons_zero, List.getElem_cons_succ]
            refine wpAnyH_done (by kernel_rfl) ?_ _
            obtain ⟨gr, hD, hB⟩ := HEND.out
            exact HJ.out g4 g8 g10 u51 ⟨⟨gr, hD⟩, hB⟩
          exact AllReadyH.nil
        exact AllReadyH.nil
      refine AllReadyH.cons rfl (fun K hK => ?bds52) ?cds52
      case bds52 =>
        go_simp
        obtain ⟨g10, hg⟩ : ∃ g, g = u5.heap.size := ⟨_, rfl⟩
        obtain ⟨u52, hu⟩ : ∃ X, X = u5.alloc (.cells #[.int .i64 0, .int .i64 0, .int .i64 0, .pointer none, .slice none 0 0, .pointer none] 64) := ⟨_, rfl⟩
        have hb : Below u5.heap.size u5 u52 := by rw [hu]; exact (Below.refl _ _).alloc (Nat.le_refl _) _
        rw [← hg, ← hu]
        have F10 := Lib.hid (CF.new HB.out.size hg hu)
        replace FR := Lib.hid (FR.out.below hb)
        replace HB := Lib.hid (hbt HB.out hb)
        clear hb hg hu
        refine hK.out _ _ (rc_of FR.out.2) (fun hHeld52 => ?_)
        clear hK K
        try simp only [Act.put, List.getElem_toArray, List.getElem_cons_zero, List.getElem_cons_succ, List.setIfInBounds_toArray, List.set_cons_zero, List.set_cons_succ]
        refine wpAnyH_ready (rs := [4, 6]) (by kernel_rfl) (by simp) ?_
        refine AllReadyH.cons rfl (fun K hK => ?bds53) ?cds53
        case bds53 =>
          go_simp
          obtain ⟨g4, hg⟩ : ∃ g, g = u52.heap.size := ⟨_, rfl⟩
          obtain ⟨u53, hu⟩ : ∃ X, X = u52.alloc (.cells (madeCells #[.int .i64 0, .int .i64 0] (n * 2)) 65) := ⟨_, rfl⟩
          have hb : Below u52.heap.size u52 u53 := by rw [hu]; exact (Below.refl _ _).alloc (Nat.le_refl _) _
          rw [← hg, ← hu]
          have F4 := Lib.hid (CF.new HB.out.size hg hu)
          replace F10 := Lib.hid (F10.out.below hb)
          replace FR := Lib.hid (FR.out.below hb)
          replace HB := Lib.hid (hbt HB.out hb)
          clear hb hg hu
          refine hK.out _ _ (rc_of FR.out.2) (fun hHeld53 => ?_)
          clear hK K
          try simp only [Act.put, List.getElem_toArray, List.getElem_cons_zero, List.getElem_cons_succ, List.setIfInBounds_toArray, List.set_cons_zero, List.set_cons_succ]
          refine wpAnyH_ready (rs := [6]) (by kernel_rfl) (by simp) ?_
          refine AllReadyH.cons rfl (fun K hK => ?_) AllReadyH.nil
          go_simp
          refine (HNODES.out _ HB.out).mono ?_
          rintro e u54 ⟨rfl, hb⟩
          replace F4 := Lib.hid (F4.out.below hb)
          replace F10 := Lib.hid (F10.out.below hb)
          replace FR := Lib.hid (FR.out.below hb)
          replace HB := Lib.hid (hbt HB.out hb)
          clear hb
          refine hK.out _ _ (rc_of FR.out.2) (fun hHeld54 => ?_)
          clear hK K
          try simp only [Act.put, List.getElem_toArray, List.getElem_cons_zero, List.getElem_cons_succ, List.setIfInBounds_toArray, List.set_cons_zero, List.set_cons_succ]
          refine wpAnyH_take (i := 7) (v := ?_) rfl (by kernel_rfl) (by kernel_rfl) (by kernel_rfl) (fun _ _ _ h => h) (Or.inl ⟨by rfl, ?yds55⟩) (by assumption) ?qds55
          case yds55 => (intro wz hSw; (try dsimp only at hSw); go_simp <;> with_reducible rfl)
          try simp only [Act.put, List.getElem_toArray, List.getElem_cons_zero, List.getElem_cons_succ, List.setIfInBounds_toArray, List.set_cons_zero, List.set_cons_succ]
          refine wpAnyH_ready (rs := [8]) (by kernel_rfl) (by simp) ?_
          refine AllReadyH.cons rfl (fun K hK => ?_) AllReadyH.nil
          go_simp
          rw [HW2.out]
          refine (HQN.out _).mono ?_
          rintro e u56 ⟨g8, rfl, hq, hb⟩
          have F8 := Lib.hid (hq w HB.out.size)
          replace F4 := Lib.hid (F4.out.below hb)
          replace F10 := Lib.hid (F10.out.below hb)
          replace FR := Lib.hid (FR.out.below hb)
          replace HB := Lib.hid (hbt HB.out hb)
          clear hb hq
          refine hK.out _ _ (rc_of FR.out.2) (fun hHeld56 => ?_)
          clear hK K
          try simp only [Act.put, List.getElem_toArray, List.getElem_cons_zero, List.getElem_cons_succ, List.setIfInBounds_toArray, List.set_cons_zero, List.set_cons_succ]
          refine wpAnyH_take (i := 9) (v := ?_) rfl (by kernel_rfl) (by kernel_rfl) (by kernel_rfl) (fun _ _ _ h => h) (Or.inl ⟨by rfl, ?yds57⟩) (by assumption) ?qds57
          case yds57 => (intro wz hSw; (try dsimp only at hSw); go_simp <;> with_reducible rfl)
          try simp only [Act.put, List.getElem_toArray, List.getElem_cons_zero, List.getElem_cons_succ, List.setIfInBounds_toArray, List.set_cons_zero, List.set_cons_succ]
          refine wpAnyH_ready (rs := [11]) (by kernel_rfl) (by simp) ?_
          refine AllReadyH.cons rfl (fun K hK => ?_) AllReadyH.nil
          rw [if_pos (by rfl)]
          refine wp_store_srch (.tmp 9) (.tmp 24) rfl ⟨g10, g4, g8, 0⟩ n mask must least pg _ rfl rfl F10.out.2 rfl ?_
          intro u58 hst
          have HEND := Lib.hid (D0.new HN4.out HB.out F4.out F8.out F10.out (fun gr => hst))
          have hR := rc_of ((hst.2.2.2.2.2 gR (FR.out.ne F10.out (by decide))).trans FR.out.2)
          clear hst
          refine hK.out _ _ (hR) (fun hHeld58 => ?_)
          clear hK K
          try simp only [Act.put, List.getElem_toArray, List.getElem_cons_zero, List.getElem_cons_succ]
          refine wpAnyH_done (by kernel_rfl) ?_ _
          obtain ⟨gr, hD, hB⟩ := HEND.out
          exact HJ.out g4 g8 g10 u58 ⟨⟨gr, hD⟩, hB⟩
        refine AllReadyH.cons rfl (fun K hK => ?bds59) ?cds59
        case bds59 =>
          go_simp
          refine (HNODES.out _ HB.out).mono ?_
          rintro e u59 ⟨rfl, hb⟩
          replace F10 := Lib.hid (F10.out.below hb)
          replace FR := Lib.hid (FR.out.below hb)
          replace HB := Lib.hid (hbt HB.out hb)
          clear hb
          refine hK.out _ _ (rc_of FR.out.2) (fun hHeld59 => ?_)
          clear hK K
          try simp only [Act.put, List.getElem_toArray, List.getElem_cons_zero, List.getElem_cons_succ, List.setIfInBounds_toArray, List.set_cons_zero, List.set_cons_succ]
          refine wpAnyH_take (i := 7) (v := ?_) rfl (by kernel_rfl) (by kernel_rfl) (by kernel_rfl) (fun _ _ _ h => h) (Or.inl ⟨by rfl, ?yds60⟩) (by assumption) ?qds60
          case yds60 => (intro wz hSw; (try dsimp only at hSw); go_simp <;> with_reducible rfl)
          try simp only [Act.put, List.getElem_toArray, List.getElem_cons_zero, List.getElem_cons_succ, List.setIfInBounds_toArray, List.set_cons_zero, List.set_cons_succ]
          refine wpAnyH_ready (rs := [4, 8]) (by kernel_rfl) (by simp) ?_
          refine AllReadyH.cons rfl (fun K hK => ?bds61) ?cds61
          case bds61 =>
            go_simp
            obtain ⟨g4, hg⟩ : ∃ g, g = u59.heap.size := ⟨_, rfl⟩
            obtain ⟨u61, hu⟩ : ∃ X, X = u59.alloc (.cells (madeCells #[.int .i64 0, .int .i64 0] (n * 2)) 65) := ⟨_, rfl⟩
            have hb : Below u59.heap.size u59 u61 := by rw [hu]; exact (Below.refl _ _).alloc (Nat.le_refl _) _
            rw [← hg, ← hu]
            have F4 := Lib.hid (CF.new HB.out.size hg hu)
            replace F10 := Lib.hid (F10.out.below hb)
            replace FR := Lib.hid (FR.out.below hb)
            replace HB := Lib.hid (hbt HB.out hb)
            clear hb hg hu
            refine hK.out _ _ (rc_of FR.out.2) (fun hHeld61 => ?_)
            clear hK K
            try simp only [Act.put, List.getElem_toArray, List.getElem_cons_zero, List.getElem_cons_succ, List.setIfInBounds_toArray, List.set_cons_zero, List.set_cons_succ]
            refine wpAnyH_ready (rs := [8]) (by kernel_rfl) (by simp) ?_
            refine AllReadyH.cons rfl (fun K hK => ?_) AllReadyH.nil
            go_simp
            rw [HW2.out]
            refine (HQN.out _).mono ?_
            rintro e u62 ⟨g8, rfl, hq, hb⟩
            have F8 := Lib.hid (hq w HB.out.size)
            replace F4 := Lib.hid (F4.out.below hb)
            replace F10 := Lib.hid (F10.out.below hb)
            replace FR := Lib.hid (FR.out.below hb)
            replace HB := Lib.hid (hbt HB.out hb)
            clear hb hq
            refine hK.out _ _ (rc_of FR.out.2) (fun hHeld62 => ?_)
            clear hK K
            try simp only [Act.put, List.getElem_toArray, List.getElem_cons_zero, List.getElem_cons_succ, List.setIfInBounds_toArray, List.set_cons_zero, List.set_cons_succ]
            refine wpAnyH_take (i := 9) (v := ?_) rfl (by kernel_rfl) (by kernel_rfl) (by kernel_rfl) (fun _ _ _ h => h) (Or.inl ⟨by rfl, ?yds63⟩) (by assumption) ?qds63
            case yds63 => (intro wz hSw; (try dsimp only at hSw); go_simp <;> with_reducible rfl)
            try simp only [Act.put, List.getElem_toArray, List.getElem_cons_zero, List.getElem_cons_succ, List.setIfInBounds_toArray, List.set_cons_zero, List.set_cons_succ]
            refine wpAnyH_ready (rs := [11]) (by kernel_rfl) (by simp) ?_
            refine AllReadyH.cons rfl (fun K hK => ?_) AllReadyH.nil
            rw [if_pos (by rfl)]
            refine wp_store_srch (.tmp 9) (.tmp 24) rfl ⟨g10, g4, g8, 0⟩ n mask must least pg _ rfl rfl F10.out.2 rfl ?_
            intro u64 hst
            have HEND := Lib.hid (D0.new HN4.out HB.out F4.out F8.out F10.out (fun gr => hst))
            have hR := rc_of ((hst.2.2.2.2.2 gR (FR.out.ne F10.out (by decide))).trans FR.out.2)
            clear hst
            refine hK.out _ _ (hR) (fun hHeld64 => ?_)
            clear hK K
            try simp only [Act.put, List.getElem_toArray, List.getElem_cons_zero, List.getElem_cons_succ]
            refine wpAnyH_done (by kernel_rfl) ?_ _
            obtain ⟨gr, hD, hB⟩ := HEND.out
            exact HJ.out g4 g8 g10 u64 ⟨⟨gr, hD⟩, hB⟩
          refine AllReadyH.cons rfl (fun K hK => ?bds65) ?cds65
          case bds65 =>
            go_simp
            rw [HW2.out]
            refine (HQN.out _).mono ?_
            rintro e u65 ⟨g8, rfl, hq, hb⟩
            have F8 := Lib.hid (hq w HB.out.size)
            replace F10 := Lib.hid (F10.out.below hb)
            replace FR := Lib.hid (FR.out.below hb)
            replace HB := Lib.hid (hbt HB.out hb)
            clear hb hq
            refine hK.out _ _ (rc_of FR.out.2) (fun hHeld65 => ?_)
            clear hK K
            try simp only [Act.put, List.getElem_toArray, List.getElem_cons_zero, List.getElem_cons_succ, List.setIfInBounds_toArray, List.set_cons_zero, List.set_cons_succ]
            refine wpAnyH_ready (rs := [4]) (by kernel_rfl) (by simp) ?_
            refine AllReadyH.cons rfl (fun K hK => ?_) AllReadyH.nil
            go_simp
            obtain ⟨g4, hg⟩ : ∃ g, g = u65.heap.size := ⟨_, rfl⟩
            obtain ⟨u66, hu⟩ : ∃ X, X = u65.alloc (.cells (madeCells #[.int .i64 0, .int .i64 0] (n * 2)) 65) := ⟨_, rfl⟩
            have hb : Below u65.heap.size u65 u66 := by rw [hu]; exact (Below.refl _ _).alloc (Nat.le_refl _) _
            rw [← hg, ← hu]
            have F4 := Lib.hid (CF.new HB.out.size hg hu)
            replace F8 := Lib.hid (F8.out.below hb)
            replace F10 := Lib.hid (F10.out.below hb)
            replace FR := Lib.hid (FR.out.below hb)
            replace HB := Lib.hid (hbt HB.out hb)
            clear hb hg hu
            refine hK.out _ _ (rc_of FR.out.2) (fun hHeld66 => ?_)
            clear hK K
            try simp only [Act.put, List.getElem_toArray, List.getElem_cons_zero, List.getElem_cons_succ, List.setIfInBounds_toArray, List.set_cons_zero, List.set_cons_succ]
            refine wpAnyH_take (i := 9) (v := ?_) rfl (by kernel_rfl) (by kernel_rfl) (by kernel_rfl) (fun _ _ _ h => h) (Or.inl ⟨by rfl, ?yds67⟩) (by assumption) ?qds67
            case yds67 => (intro wz hSw; (try dsimp only at hSw); go_simp <;> with_reducible rfl)
            try simp only [Act.put, List.getElem_toArray, List.getElem_cons_zero, List.getElem_cons_succ, List.setIfInBounds_toArray, List.set_cons_zero, List.set_cons_succ]
            refine wpAnyH_ready (rs := [11]) (by kernel_rfl) (by simp) ?_
            refine AllReadyH.cons rfl (fun K hK => ?_) AllReadyH.nil
            rw [if_pos (by rfl)]
            refine wp_store_srch (.tmp 9) (.tmp 24) rfl ⟨g10, g4, g8, 0⟩ n mask must least pg _ rfl rfl F10.out.2 rfl ?_
            intro u68 hst
            have HEND := Lib.hid (D0.new HN4.out HB.out F4.out F8.out F10.out (fun gr => hst))
            have hR := rc_of ((hst.2.2.2.2.2 gR (FR.out.ne F10.out (by decide))).trans FR.out.2)
            clear hst
            refine hK.out _ _ (hR) (fun hHeld68 => ?_)
            clear hK K
            try simp only [Act.put, List.getElem_toArray, List.getElem_cons_zero, List.getElem_cons_succ]
            refine wpAnyH_done (by kernel_rfl) ?_ _
            obtain ⟨gr, hD, hB⟩ := HEND.out
            exact HJ.out g4 g8 g10 u68 ⟨⟨gr, hD⟩, hB⟩
          exact AllReadyH.nil
        exact AllReadyH.nil
      exact AllReadyH.nil
    refine AllReadyH.cons rfl (fun K hK => ?bds69) ?cds69
    case bds69 =>
      go_simp
      obtain ⟨g10, hg⟩ : ∃ g, g = U0.heap.size := ⟨_, rfl⟩
      obtain ⟨u69, hu⟩ : ∃ X, X = U0.alloc (.cells #[.int .i64 0, .int .i64 0, .int .i64 0, .pointer none, .slice none 0 0, .pointer none] 64) := ⟨_, rfl⟩
      have hb : Below U0.heap.size U0 u69 := by rw [hu]; exact (Below.refl _ _).alloc (Nat.le_refl _) _
      rw [← hg, ← hu]
      have F10 := Lib.hid (CF.new HB.out.size hg hu)
      replace FR := Lib.hid (FR.out.below hb)
      replace HB := Lib.hid (hbt HB.out hb)
      clear hb hg hu
      refine hK.out _ _ (rc_of FR.out.2) (fun hHeld69 => ?_)
      clear hK K
      try simp only [Act.put, List.getElem_toArray, List.getElem_cons_zero, List.getElem_cons_succ, List.setIfInBounds_toArray, List.set_cons_zero, List.set_cons_succ]
      refine wpAnyH_ready (rs := [3]) (by kernel_rfl) (by simp) ?_
      refine AllReadyH.cons rfl (fun K hK => ?_) AllReadyH.nil
      go_simp
      refine (HNODES.out _ HB.out).mono ?_
      rintro e u70 ⟨rfl, hb⟩
      replace F10 := Lib.hid (F10.out.below hb)
      replace FR := Lib.hid (FR.out.below hb)
      replace HB := Lib.hid (hbt HB.out hb)
      clear hb
      refine hK.out _ _ (rc_of FR.out.2) (fun hHeld70 => ?_)
      clear hK K
      try simp only [Act.put, List.getElem_toArray, List.getElem_cons_zero, List.getElem_cons_succ, List.setIfInBounds_toArray, List.set_cons_zero, List.set_cons_succ]
      refine wpAnyH_ready (rs := [4, 6]) (by kernel_rfl) (by simp) ?_
      refine AllReadyH.cons rfl (fun K hK => ?bds71) ?cds71
      case bds71 =>
        go_simp
        obtain ⟨g4, hg⟩ : ∃ g, g = u70.heap.size := ⟨_, rfl⟩
        obtain ⟨u71, hu⟩ : ∃ X, X = u70.alloc (.cells (madeCells #[.int .i64 0, .int .i64 0] (n * 2)) 65) := ⟨_, rfl⟩
        have hb : Below u70.heap.size u70 u71 := by rw [hu]; exact (Below.refl _ _).alloc (Nat.le_refl _) _
        rw [← hg, ← hu]
        have F4 := Lib.hid (CF.new HB.out.size hg hu)
        replace F10 := Lib.hid (F10.out.below hb)
        replace FR := Lib.hid (FR.out.below hb)
        replace HB := Lib.hid (hbt HB.out hb)
        clear hb hg hu
        refine hK.out _ _ (rc_of FR.out.2) (fun hHeld71 => ?_)
        clear hK K
        try simp only [Act.put, List.getElem_toArray, List.getElem_cons_zero, List.getElem_cons_succ, List.setIfInBounds_toArray, List.set_cons_zero, List.set_cons_succ]
        refine wpAnyH_ready (rs := [6]) (by kernel_rfl) (by simp) ?_
        refine AllReadyH.cons rfl (fun K hK => ?_) AllReadyH.nil
        go_simp
        refine (HNODES.out _ HB.out).mono ?_
        rintro e u72 ⟨rfl, hb⟩
        replace F4 := Lib.hid (F4.out.below hb)
        replace F10 := Lib.hid (F10.out.below hb)
        replace FR := Lib.hid (FR.out.below hb)
        replace HB := Lib.hid (hbt HB.out hb)
        clear hb
        refine hK.out _ _ (rc_of FR.out.2) (fun hHeld72 => ?_)
        clear hK K
        try simp only [Act.put, List.getElem_toArray, List.getElem_cons_zero, List.getElem_cons_succ, List.setIfInBounds_toArray, List.set_cons_zero, List.set_cons_succ]
        refine wpAnyH_take (i := 7) (v := ?_) rfl (by kernel_rfl) (by kernel_rfl) (by kernel_rfl) (fun _ _ _ h => h) (Or.inl ⟨by rfl, ?yds73⟩) (by assumption) ?qds73
        case yds73 => (intro wz hSw; (try dsimp only at hSw); go_simp <;> with_reducible rfl)
        try simp only [Act.put, List.getElem_toArray, List.getElem_cons_zero, List.getElem_cons_succ, List.setIfInBounds_toArray, List.set_cons_zero, List.set_cons_succ]
        refine wpAnyH_ready (rs := [8]) (by kernel_rfl) (by simp) ?_
        refine AllReadyH.cons rfl (fun K hK => ?_) AllReadyH.nil
        go_simp
        rw [HW2.out]
        refine (HQN.out _).mono ?_
        rintro e u74 ⟨g8, rfl, hq, hb⟩
        have F8 := Lib.hid (hq w HB.out.size)
        replace F4 := Lib.hid (F4.out.below hb)
        replace F10 := Lib.hid (F10.out.below hb)
        replace FR := Lib.hid (FR.out.below hb)
        replace HB := Lib.hid (hbt HB.out hb)
        clear hb hq
        refine hK.out _ _ (rc_of FR.out.2) (fun hHeld74 => ?_)
        clear hK K
        try simp only [Act.put, List.getElem_toArray, List.getElem_cons_zero, List.getElem_cons_succ, List.setIfInBounds_toArray, List.set_cons_zero, List.set_cons_succ]
        refine wpAnyH_take (i := 9) (v := ?_) rfl (by kernel_rfl) (by kernel_rfl) (by kernel_rfl) (fun _ _ _ h => h) (Or.inl ⟨by rfl, ?yds75⟩) (by assumption) ?qds75
        case yds75 => (intro wz hSw; (try dsimp only at hSw); go_simp <;> with_reducible rfl)
        try simp only [Act.put, List.getElem_toArray, List.getElem_cons_zero, List.getElem_cons_succ, List.setIfInBounds_toArray, List.set_cons_zero, List.set_cons_succ]
        refine wpAnyH_ready (rs := [11]) (by kernel_rfl) (by simp) ?_
        refine AllReadyH.cons rfl (fun K hK => ?_) AllReadyH.nil
        rw [if_pos (by rfl)]
        refine wp_store_srch (.tmp 9) (.tmp 24) rfl ⟨g10, g4, g8, 0⟩ n mask must least pg _ rfl rfl F10.out.2 rfl ?_
        intro u76 hst
        have HEND := Lib.hid (D0.new HN4.out HB.out F4.out F8.out F10.out (fun gr => hst))
        have hR := rc_of ((hst.2.2.2.2.2 gR (FR.out.ne F10.out (by decide))).trans FR.out.2)
        clear hst
        refine hK.out _ _ (hR) (fun hHeld76 => ?_)
        clear hK K
        try simp only [Act.put, List.getElem_toArray, List.getElem_cons_zero, List.getElem_cons_succ]
        refine wpAnyH_done (by kernel_rfl) ?_ _
        obtain ⟨gr, hD, hB⟩ := HEND.out
        exact HJ.out g4 g8 g10 u76 ⟨⟨gr, hD⟩, hB⟩
      refine AllReadyH.cons rfl (fun K hK => ?bds77) ?cds77
      case bds77 =>
        go_simp
        refine (HNODES.out _ HB.out).mono ?_
        rintro e u77 ⟨rfl, hb⟩
        replace F10 := Lib.hid (F10.out.below hb)
        replace FR := Lib.hid (FR.out.below hb)
        replace HB := Lib.hid (hbt HB.out hb)
        clear hb
        refine hK.out _ _ (rc_of FR.out.2) (fun hHeld77 => ?_)
        clear hK K
        try simp only [Act.put, List.getElem_toArray, List.getElem_cons_zero, List.getElem_cons_succ, List.setIfInBounds_toArray, List.set_cons_zero, List.set_cons_succ]
        refine wpAnyH_take (i := 7) (v := ?_) rfl (by kernel_rfl) (by kernel_rfl) (by kernel_rfl) (fun _ _ _ h => h) (Or.inl ⟨by rfl, ?yds78⟩) (by assumption) ?qds78
        case yds78 => (intro wz hSw; (try dsimp only at hSw); go_simp <;> with_reducible rfl)
        try simp only [Act.put, List.getElem_toArray, List.getElem_cons_zero, List.getElem_cons_succ, List.setIfInBounds_toArray, List.set_cons_zero, List.set_cons_succ]
        refine wpAnyH_ready (rs := [4, 8]) (by kernel_rfl) (by simp) ?_
        refine AllReadyH.cons rfl (fun K hK => ?bds79) ?cds79
        case bds79 =>
          go_simp
          obtain ⟨g4, hg⟩ : ∃ g, g = u77.heap.size := ⟨_, rfl⟩
          obtain ⟨u79, hu⟩ : ∃ X, X = u77.alloc (.cells (madeCells #[.int .i64 0, .int .i64 0] (n * 2)) 65) := ⟨_, rfl⟩
          have hb : Below u77.heap.size u77 u79 := by rw [hu]; exact (Below.refl _ _).alloc (Nat.le_refl _) _
          rw [← hg, ← hu]
          have F4 := Lib.hid (CF.new HB.out.size hg hu)
          replace F10 := Lib.hid (F10.out.below hb)
          replace FR := Lib.hid (FR.out.below hb)
          replace HB := Lib.hid (hbt HB.out hb)
          clear hb hg hu
          refine hK.out _ _ (rc_of FR.out.2) (fun hHeld79 => ?_)
          clear hK K
          try simp only [Act.put, List.getElem_toArray, List.getElem_cons_zero, List.getElem_cons_succ, List.setIfInBounds_toArray, List.set_cons_zero, List.set_cons_succ]
          refine wpAnyH_ready (rs := [8]) (by kernel_rfl) (by simp) ?_
          refine AllReadyH.cons rfl (fun K hK => ?_) AllReadyH.nil
          go_simp
          rw [HW2.out]
          refine (HQN.out _).mono ?_
          rintro e u80 ⟨g8, rfl, hq, hb⟩
          have F8 := Lib.hid (hq w HB.out.size)
          replace F4 := Lib.hid (F4.out.below hb)
          replace F10 := Lib.hid (F10.out.below hb)
          replace FR := Lib.hid (FR.out.below hb)
          replace HB := Lib.hid (hbt HB.out hb)
          clear hb hq
          refine hK.out _ _ (rc_of FR.out.2) (fun hHeld80 => ?_)
          clear hK K
          try simp only [Act.put, List.getElem_toArray, List.getElem_cons_zero, List.getElem_cons_succ, List.setIfInBounds_toArray, List.set_cons_zero, List.set_cons_succ]
          refine wpAnyH_take (i := 9) (v := ?_) rfl (by kernel_rfl) (by kernel_rfl) (by kernel_rfl) (fun _ _ _ h => h) (Or.inl ⟨by rfl, ?yds81⟩) (by assumption) ?qds81
          case yds81 => (intro wz hSw; (try dsimp only at hSw); go_simp <;> with_reducible rfl)
          try simp only [Act.put, List.getElem_toArray, List.getElem_cons_zero, List.getElem_cons_succ, List.setIfInBounds_toArray, List.set_cons_zero, List.set_cons_succ]
          refine wpAnyH_ready (rs := [11]) (by kernel_rfl) (by simp) ?_
          refine AllReadyH.cons rfl (fun K hK => ?_) AllReadyH.nil
          rw [if_pos (by rfl)]
          refine wp_store_srch (.tmp 9) (.tmp 24) rfl ⟨g10, g4, g8, 0⟩ n mask must least pg _ rfl rfl F10.out.2 rfl ?_
          intro u82 hst
          have HEND := Lib.hid (D0.new HN4.out HB.out F4.out F8.out F10.out (fun gr => hst))
          have hR := rc_of ((hst.2.2.2.2.2 gR (FR.out.ne F10.out (by decide))).trans FR.out.2)
          clear hst
          refine hK.out _ _ (hR) (fun hHeld82 => ?_)
          clear hK K
          try simp only [Act.put, List.getElem_toArray, List.getElem_cons_zero, List.getElem_cons_succ]
          refine wpAnyH_done (by kernel_rfl) ?_ _
          obtain ⟨gr, hD, hB⟩ := HEND.out
          exact HJ.out g4 g8 g10 u82 ⟨⟨gr, hD⟩, hB⟩
        refine AllReadyH.cons rfl (fun K hK => ?bds83) ?cds83
        case bds83 =>
          go_simp
          rw [HW2.out]
          refine (HQN.out _).mono ?_
          rintro e u83 ⟨g8, rfl, hq, hb⟩
          have F8 := Lib.hid (hq w HB.out.size)
          replace F10 := Lib.hid (F10.out.below hb)
          replace FR := Lib.hid (FR.out.below hb)
          replace HB := Lib.hid (hbt HB.out hb)
          clear hb hq
          refine hK.out _ _ (rc_of FR.out.2) (fun hHeld83 => ?_)
          clear hK K
          try simp only [Act.put, List.getElem_toArray, List.getElem_cons_zero, List.getElem_cons_succ, List.setIfInBounds_toArray, List.set_cons_zero, List.set_cons_succ]
          refine wpAnyH_ready (rs := [4]) (by kernel_rfl) (by simp) ?_
          refine AllReadyH.cons rfl (fun K hK => ?_) AllReadyH.nil
          go_simp
          obtain ⟨g4, hg⟩ : ∃ g, g = u83.heap.size := ⟨_, rfl⟩
          obtain ⟨u84, hu⟩ : ∃ X, X = u83.alloc (.cells (madeCells #[.int .i64 0, .int .i64 0] (n * 2)) 65) := ⟨_, rfl⟩
          have hb : Below u83.heap.size u83 u84 := by rw [hu]; exact (Below.refl _ _).alloc (Nat.le_refl _) _
          rw [← hg, ← hu]
          have F4 := Lib.hid (CF.new HB.out.size hg hu)
          replace F8 := Lib.hid (F8.out.below hb)
          replace F10 := Lib.hid (F10.out.below hb)
          replace FR := Lib.hid (FR.out.below hb)
          replace HB := Lib.hid (hbt HB.out hb)
          clear hb hg hu
          refine hK.out _ _ (rc_of FR.out.2) (fun hHeld84 => ?_)
          clear hK K
          try simp only [Act.put, List.getElem_toArray, List.getElem_cons_zero, List.getElem_cons_succ, List.setIfInBounds_toArray, List.set_cons_zero, List.set_cons_succ]
          refine wpAnyH_take (i := 9) (v := ?_) rfl (by kernel_rfl) (by kernel_rfl) (by kernel_rfl) (fun _ _ _ h => h) (Or.inl ⟨by rfl, ?yds85⟩) (by assumption) ?qds85
          case yds85 => (intro wz hSw; (try dsimp only at hSw); go_simp <;> with_reducible rfl)
          try simp only [Act.put, List.getElem_toArray, List.getElem_cons_zero, List.getElem_cons_succ, List.setIfInBounds_toArray, List.set_cons_zero, List.set_cons_succ]
          refine wpAnyH_ready (rs := [11]) (by kernel_rfl) (by simp) ?_
          refine AllReadyH.cons rfl (fun K hK => ?_) AllReadyH.nil
          rw [if_pos (by rfl)]
          refine wp_store_srch (.tmp 9) (.tmp 24) rfl ⟨g10, g4, g8, 0⟩ n mask must least pg _ rfl rfl F10.out.2 rfl ?_
          intro u86 hst
          have HEND := Lib.hid (D0.new HN4.out HB.out F4.out F8.out F10.out (fun gr => hst))
          have hR := rc_of ((hst.2.2.2.2.2 gR (FR.out.ne F10.out (by decide))).trans FR.out.2)
          clear hst
          refine hK.out _ _ (hR) (fun hHeld86 => ?_)
          clear hK K
          try simp only [Act.put, List.getElem_toArray, List.getElem_cons_zero, List.getElem_cons_succ]
          refine wpAnyH_done (by kernel_rfl) ?_ _
          obtain ⟨gr, hD, hB⟩ := HEND.out
          exact HJ.out g4 g8 g10 u86 ⟨⟨gr, hD⟩, hB⟩
        exact AllReadyH.nil
      exact AllReadyH.nil
    exact AllReadyH.nil
  case rest =>
    rintro gS gq gb u ⟨⟨gr, hD⟩, hb⟩
    have HD := Lib.hid hD
    have HBU := Lib.hid hb
    clear hD hb
    go_wp2_with fail
    refine (HNODES.out _ HBU.out).mono ?_
    rintro e w2 ⟨rfl, hb2⟩
    have HD2 := Lib.hid (HD.out.below hb2)
    have HB2 := Lib.hid (hbt HBU.out hb2)
    clear hb2 HD HBU
    go_wp2_with fail
    obtain ⟨gl, hgl⟩ : ∃ g, g = w2.heap.size := ⟨_, rfl⟩
    obtain ⟨w3, hw3⟩ : ∃ X, X = w2.alloc (.cells (madeCells #[.int .i64 0] n) 3) := ⟨_, rfl⟩
    have hb3 : Below w2.heap.size w2 w3 := by rw [hw3]; exact (Below.refl _ _).alloc (Nat.le_refl _) _
    have FL : Hid (CF w gl (.cells (intsV n fun _ => 0) 3) w3) := Lib.hid (by rw [← intsV_zero]; exact CF.new HB2.out.size hgl hw3)
    have HLT : Hid (∀ g, DF ⟨gb, gS, gq, gr⟩ g → g ≠ gl) := Lib.hid fun g hg => by have := D0.df_lt HD2.out g hg; omega
    have HD3 := Lib.hid (HD2.out.below hb3)
    have HB3 := Lib.hid (hbt HB2.out hb3)
    rw [← hgl, ← hw3]
    clear hgl hw3 hb3 HD2 HB2 hmk1 hmk2 HQN
    go_loopw [30] (fun s30 wr => ∃ i : Nat, s30 = .int .i64 (i : Int) ∧ i ≤ n ∧ Hid (D0 w.heap.size ⟨gb, gS, gq, gr⟩ n mask must least pg wr i ∧ CF w gl (.cells (intsV n fun _ => 0) 3) wr ∧ Below w.heap.size w wr)) (fun s30 _ => n - (intOf s30).toNat)
    case atStart => exact ⟨0, rfl, Nat.zero_le _, Lib.hid ⟨HD3.out, FL.out, HB3.out⟩⟩
    case round =>
      obtain ⟨i, rfl, hi, HI⟩ := hrel
      by_cases hlt : i < n
      · obtain ⟨c2, ⟨c3, c4⟩, c5, c6⟩ := HI.out.1.at_ hlt
        have c5 := c5 (.int .i64 (-1))
        have c6 := c6 (.int .i64 (-1))
        have hii : (i : Int) < (n : Int) := by omega
        have HNX : Hid (D0 w.heap.size ⟨gb, gS, gq, gr⟩ n mask must least pg ((wr.setCell ⟨gS, i * 2, none⟩ (.int .i64 (-1))).setCell ⟨gS, i * 2 + 1, none⟩ (.int .i64 (-1))) (i + 1) ∧ CF w gl (.cells (intsV n fun _ => 0) 3) ((wr.setCell ⟨gS, i * 2, none⟩ (.int .i64 (-1))).setCell ⟨gS, i * 2 + 1, none⟩ (.int .i64 (-1))) ∧ Below w.heap.size w ((wr.setCell ⟨gS, i * 2, none⟩ (.int .i64 (-1))).setCell ⟨gS, i * 2 + 1, none⟩ (.int .i64 (-1)))) := Lib.hid (by
          obtain ⟨d1, d2, d3⟩ := HI.out
          have ne : gl ≠ gS := Ne.symm (HLT.out gS (.inr (.inl rfl)))
          have f1 : Fr (DF ⟨gb, gS, gq, gr⟩) wr ((wr.setCell ⟨gS, i * 2, none⟩ (.int .i64 (-1))).setCell ⟨gS, i * 2 + 1, none⟩ (.int .i64 (-1))) := ((Fr.refl _ _).setCell (.inr (.inl rfl)) _ _).setCell (.inr (.inl rfl)) _ _
          exact ⟨d1.lay2 hlt, ⟨d2.1, (f1.block (heap_lt d2.2) (fun e => HLT.out gl e rfl)).trans d2.2⟩, d3.trans (f1.below (fun g hg => by obtain ⟨h1, h2, h3, h4⟩ := d1.ge; rcases hg with rfl | rfl | rfl | rfl <;> assumption) d1.size)⟩)
        clear HI
        go_wp2_with fail
        go_roundw
        case rel => exact ⟨i + 1, by go_num, hlt, HNX⟩
        case measure => simp [intOf]; omega
      · have e : n = i := by omega
        subst e
        obtain ⟨d1, d2, d3⟩ := HI.out
        have HD4 := Lib.hid d1.full
        have FL4 := Lib.hid d2
        have HB4 := Lib.hid d3
        clear d1 d2 d3 HI hi hlt HD3 FL HB3
        go_wp2_with fail
        refine (meet_start (pv := pvP pv mask must) HD4.out node).mono ?_
        rintro e w5 ⟨rfl, hs5, hf5⟩
        have HE5 : Hid (∀ gx, gx < wr.heap.size → ¬ DF ⟨gb, gS, gq, gr⟩ gx → w5.heap[gx]? = wr.heap[gx]?) := Lib.hid fun gx h1 h2 => hf5.block h1 h2
        have HS5 := Lib.hid hs5
        have FL5 : Hid (CF w gl (.cells (intsV n fun _ => 0) 3) w5) := Lib.hid ⟨FL4.out.1, (hf5.block (heap_lt FL4.out.2) (fun e => HLT.out gl e rfl)).trans FL4.out.2⟩
        have HB5 : Hid (Below w.heap.size w w5) := Lib.hid (HB4.out.trans (hf5.below HD4.out.df_ge HD4.out.size))
        clear hs5 hf5 HE5 HD4 FL4 HB4
        obtain ⟨s5, k5, hd5, hg5, ha5⟩ := HS5.out
        obtain ⟨c0, c1, c2, c3, c4, c5⟩ := hd5.cells
        have HD5 := Lib.hid hd5
        have HG5 := Lib.hid hg5
        have HA5 := Lib.hid ha5
        clear hd5 hg5 ha5 HS5 c0 c1 c2 c3 c4
        go_wp2_with fail
        refine (pop_any HD5.out).mono ?_
        rintro e w6 ⟨rfl, hd6, hf6⟩
        have HL6 : Hid (LP w ⟨gb, gS, gq, gr⟩ n mask must least pg (pvP pv mask must) (startP n node) gl (s5.q.headD 0) (!s5.q.isEmpty) w6) := Lib.hid ⟨s5, k5, hd6, HG5.out, HA5.out, rfl, rfl, ⟨FL5.out.1, (hf6.block (heap_lt FL5.out.2) (fun e => HLT.out gl e rfl)).trans FL5.out.2⟩, HB5.out.trans (hf6.below HD5.out.df_ge HD5.out.size)⟩
        clear hd6 hf6 HD5 HG5 HA5 FL5 HB5 c5
        obtain ⟨p6, hp6⟩ : ∃ p, p = s5.q.headD 0 := ⟨_, rfl⟩
        obtain ⟨b6, hb6⟩ : ∃ b, b = !s5.q.isEmpty := ⟨_, rfl⟩
        rw [← hp6, ← hb6] at HL6 ⊢
        clear hp6 hb6
        go_wp2_with fail
        go_loopw [12, 13] (fun s12 s13 wr => ∃ (p : Nat) (b : Bool), s12 = .int .i64 (p : Int) ∧ s13 = .bool b ∧ Hid (LP w ⟨gb, gS, gq, gr⟩ n mask must least pg (pvP pv mask must) (startP n node) gl p b wr)) (fun _ s13 wr => muW ⟨gb, gS, gq, gr⟩ n wr + boolN s13)
        case atStart => exact ⟨p6, b6, rfl, rfl, HL6⟩
        case round =>
          obtain ⟨p, b, rfl, rfl, HL⟩ := hrel
          cases b with
          | true =>
            obtain ⟨s, c, hd, hg, ha, hp, hb, hl, hbw⟩ := HL.out
            clear HL
            obtain ⟨q, hq⟩ : ∃ q, s.q = p :: q := by
              cases e : s.q with
              | nil => rw [e] at hb; simp at hb
              | cons x q => rw [e] at hp; exact ⟨q, by rw [hp]; rfl⟩
            rw [hq, List.tail_cons] at hd
            obtain ⟨c', h1, h2, h3, h4⟩ := hg.step hq
            have HMU := Lib.hid hd.mu
            have HBK := Lib.hid (back_any HPV.out hd hbw h3 h1)
            have HD7 := Lib.hid hd
            have HG7 := Lib.hid h4
            have HA7 : Hid (okP n least (startP n node) = true → (meets (okP n least) (c' + 1) ⟨s.d, q⟩ (pvP pv mask must p)).d (startP n node) = some 0) := Lib.hid fun e => meets_mono (s := ⟨s.d, q⟩) _ (ha e)
            have HL7 := Lib.hid hl
            have HB7 := Lib.hid hbw
            have HMS := Lib.hid (mu_meets (n := n) (k := c' + 1) (fun p hp => okP_lt (least := least) hp) (pvP pv mask must p) ⟨s.d, q⟩)
            generalize meets (okP n least) (c' + 1) ⟨s.d, q⟩ (pvP pv mask must p) = s7 at HBK HG7 HA7 HMS
            obtain ⟨c0, c1, c2, c3, c4, c5⟩ := hd.cells
            clear hd hg ha hp hb hl hbw hq h1 h2 h3 h4 c0 c1 c2 c3 c4
            go_wp2_with fail
            rw [show (p : Int) / 2 = ((p / 2 : Nat) : Int) by omega, and_bit]
            refine HBK.out.mono ?_
            rintro e w8 ⟨rfl, hd8, hf8⟩
            have FL8 : Hid (CF w gl (.cells (intsV n fun _ => 0) 3) w8) := Lib.hid ⟨HL7.out.1, (hf8.block (heap_lt HL7.out.2) (fun e => HLT.out gl e rfl)).trans HL7.out.2⟩
            have HB8 : Hid (Below w.heap.size w w8) := Lib.hid (HB7.out.trans (hf8.below HD7.out.df_ge HD7.out.size))
            have HD8 := Lib.hid hd8
            obtain ⟨c0, c1, c2, c3, c4, c5'⟩ := hd8.cells
            clear hd8 hf8 HBK HL7 HB7 HD7 c0 c1 c2 c3 c4 c5
            go_wp2_with fail
            refine (pop_any HD8.out).mono ?_
            rintro e w9 ⟨rfl, hd9, hf9⟩
            have HL9 : Hid (LP w ⟨gb, gS, gq, gr⟩ n mask must least pg (pvP pv mask must) (startP n node) gl (s7.q.headD 0) (!s7.q.isEmpty) w9) := Lib.hid ⟨s7, c', hd9, HG7.out, HA7.out, rfl, rfl, ⟨FL8.out.1, (hf9.block (heap_lt FL8.out.2) (fun e => HLT.out gl e rfl)).trans FL8.out.2⟩, HB8.out.trans (hf9.below HD8.out.df_ge HD8.out.size)⟩
            have HME : Hid (muW ⟨gb, gS, gq, gr⟩ n w9 + boolN (.bool (!s7.q.isEmpty)) < muW ⟨gb, gS, gq, gr⟩ n wr + boolN (.bool true)) := Lib.hid (by
              rw [HMU.out, hd9.mu, ← HMS.out]
              obtain ⟨d7, q7⟩ := s7
              cases q7 with
              | nil => simp [boolN, mu]
              | cons x q7 => simp [boolN, mu])
            clear hd9 hf9 HD8 HG7 HA7 FL8 HB8 c5' HMU HMS
            obtain ⟨p9, hp9⟩ : ∃ p, p = s7.q.headD 0 := ⟨_, rfl⟩
            obtain ⟨b9, hb9⟩ : ∃ b, b = !s7.q.isEmpty := ⟨_, rfl⟩
            rw [← hp9, ← hb9] at HL9
            rw [← hp9, ← hb9]
            rw [← hb9] at HME
            clear hp9 hb9
            go_wp2_with fail
            go_roundw
            case rel => exact ⟨p9, b9, rfl, rfl, HL9⟩
            case measure => exact HME.out
          | false =>
            obtain ⟨s, c, hd, hg, ha, hp, hb, hl, hbw⟩ := HL.out
            clear HL
            have hq : s.q = [] := by
              cases e : s.q with
              | nil => rfl
              | cons x q => rw [e] at hb; simp at hb
            have HIS := Lib.hid (hg.end_ hq ha)
            rw [hq] at hd
            have HP0 : Hid (PP w ⟨gb, gS, gq, gr⟩ n mask must least pg s.d st gl 0 wr) := Lib.hid ⟨hd, by
              have e : intsV n (part s.d st 0) = intsV n fun _ => 0 := intsV_ext fun p _ => by unfold part; rw [if_neg (by omega)]
              rw [e]
              exact hl, hbw⟩
            have hd' := s.d
            generalize s.d = d at HIS HP0
            clear hd hg ha hp hb hl hbw hq hd'
            go_wp2_with fail
            go_loopw [61] (fun s61 wr => ∃ i : Nat, s61 = .int .i64 (i : Int) ∧ i ≤ n ∧ Hid (PP w ⟨gb, gS, gq, gr⟩ n mask must least pg d st gl i wr)) (fun s61 _ => n - (intOf s61).toNat)
            case atStart => exact ⟨0, rfl, Nat.zero_le _, HP0⟩
            case round =>
              obtain ⟨i, rfl, hi, HI⟩ := hrel
              by_cases hlt : i < n
              · obtain ⟨c4, cs, cl, fl⟩ := HI.out.at_ hlt hst
                have HNX := Lib.hid (HI.out.next HLT.out hlt)
                have hii : (i : Int) < (n : Int) := by omega
                have hs2 : (st : Int) < 2 := by omega
                generalize part d st i i = z0 at cl
                generalize hz1 : stepI (d (2 * i + st)) = z1 at cs HNX
                clear HI hz1
                go_wp2_with fail
                go_roundw
                case rel => exact ⟨i + 1, by go_num, hlt, HNX⟩
                case measure => simp [intOf]; omega
              · have e : n = i := by omega
                subst e
                have HR : Hid (AnsP w n st (okP n least) (pvP pv mask must) (startP n node) (.returned (.slice (some ⟨gl, 0, none⟩) n n)) wr) := Lib.hid ⟨_, d, rfl, HIS.out, HI.out.end_ HN4.out, HI.out.2.2⟩
                clear HI HIS
                go_wp2
                go_ret
                exact HR.out

end Go.Proofs.Ytimgdkafennohaa.Ds
