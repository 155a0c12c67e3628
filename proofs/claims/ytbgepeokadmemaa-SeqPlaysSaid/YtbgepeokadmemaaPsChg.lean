/-
  Contract of the editor's change, for whatever function value whose contract is given. Not a statement of the seat.
-/
import Derived.Test.YtbgepeokadmemaaPsEos
namespace Go.Proofs.Ytbgepeokadmemaa.F
open Go.ChangeShapes Go.WideShapes Go.ChangeAt Go.RowKit Base
set_option maxHeartbeats 16000000 in
set_option maxRecDepth 100000 in
theorem change_any {B : Nat} {a : Option Addr} {root had : Int} {room : Nat} {W0 : World} {O0 : Option Nat} {zs : List Cel} (F : FuncId) (cap : Array Value) (f : Tre → Tre) (m : Nat) (hfs : ∀ t, (f t).size ≤ t.size + 1) (hfk : ∀ t, K0 t → K0 (f t))
    (eg : ∀ args w, (callFunc F args).run Try.prog w = .ok (.enter F args) w) : ∀ (t : Tre) (s i : Int) (w : World) (o : Option Nat) (ex bs bs' : List (Nat × Obj)), EDS B (.pointer a) root had room W0 O0 w o zs 0 (ex ++ bs) → Tr zs t i → K0 t → t.size ≤ 500000 → (-4000000000 ≤ s ∧ s ≤ 4000000000) →
      (∀ (ex : List (Nat × Obj)) (w : World) (o : Option Nat) (j : Int), EDS B (.pointer a) root had room W0 O0 w o zs 0 (ex ++ bs) → Tr zs (subT s t) j → Calls Try.prog F (#[celV (celAt zs j)] ++ cap) w (EOS B (.pointer a) root had room W0 O0 zs (3 * (subT s t).high + m) (f (subT s t)) (ex ++ bs'))) →
      Calls Try.prog 32 #[.pointer (some ⟨B, 0, none⟩), .int .i64 i, .int .i64 s, .func (.func F) #[] cap] w (EOS B (.pointer a) root had room W0 O0 zs (3 * t.high + m) (Tre.chg f s t) (ex ++ bs')) := by
  intro t
  induction t with
  | nil =>
    intro s i w o ex bs bs' h ht _ _ _ hdo
    simp only [Tr] at ht
    subst ht
    have HD := Lib.hid (hdo ex w o 0 h rfl)
    unfold celV at HD
    rw [celAt_zero] at HD
    simp only [Cel.zero] at HD
    have HT : Hid (Tre.chg f s .nil = f .nil) := Lib.hid rfl
    rw [show subT s .nil = .nil from rfl] at HD
    rw [HT.out]
    clear h hdo hfs hfk
    go_enter Try.func32, Try.ntmps32
    go_upto_region 2 with fail
    iterate 9 go_step
    refine HD.out.mono ?_
    rintro e w1 ⟨R, o1, hO, hl, rfl, j1⟩
    have HO := Lib.hid (And.intro hO (And.intro hl j1))
    clear hO hl j1
    go_wp2_with fail
    go_ret
    exact ⟨R, o1, HO.out.1.mono (by omega), HO.out.2.1, rfl, HO.out.2.2⟩
  | node l k v r ihl ihr =>
    intro s i w o ex bs bs' h ht hk0 hsz hsb hdo
    have hroom := h.1.2.le.1
    obtain ⟨hi, ia, ib, hcel, hl, hr⟩ := ht
    have hco := celAt_ok h.1.2.oks i
    rw [hcel] at hco
    have hvb : -9223372036854775808 ≤ v ∧ v ≤ 9223372036854775807 := by unfold Cel.ok at hco; simp only at hco; omega
    obtain ⟨rfl, kl, kr⟩ := hk0
    have hls := hl.root.1
    have hla := hl.le
    have hra := hr.le
    have hhl := hl.highA (by simp only [Tre.size] at hsz; omega)
    have hhr := hr.highA (by simp only [Tre.size] at hsz; omega)
    simp only [Tre.size] at hsz
    have hnz : (i == 0) = false := by rw [beq_eq_false_iff_ne]; omega
    have HC := Lib.hid (pscell root i h.bi.2)
    rw [hcel] at HC
    have HDO := Lib.hid hdo
    have HCV : Hid (celAt zs i = ⟨ia, ib, 0, v, ((Tre.node l 0 v r).size : Int), ((Tre.node l 0 v r).high : Int)⟩) := Lib.hid hcel
    have HTN : Hid (Tr zs (.node l 0 v r) i) := Lib.hid ⟨hi, ia, ib, hcel, hl, hr⟩
    generalize ((Tre.node l 0 v r).size : Int) = cs at HC HCV
    generalize ((Tre.node l 0 v r).high : Int) = ch at HC HCV
    have J0 := Lib.hid h
    obtain ⟨hgB, ⟨s0, s1⟩, _⟩ := ecells h.1.1
    have HPL : Hid (∀ w, Calls Try.prog 37 #[.int .i64 (celAt zs ia).s] w fun e w' => e = .returned (.int .i64 (2 * (l.size : Int) + 1)) ∧ w = w') := Lib.hid fun w => by rw [hls]; exact psplace _ w (by omega)
    have HLL := Lib.hid hl
    have HRR := Lib.hid hr
    have IHL := Lib.hid ihl
    have IHR := Lib.hid ihr
    have HSL := Lib.hid (chg_size hfs l s)
    have HSR := Lib.hid (chg_size hfs r (s - (2 * (l.size : Int) + 1) - 1))
    have HKL := Lib.hid (chg_k0 hfk l s kl)
    have HKR := Lib.hid (chg_k0 hfk r (s - (2 * (l.size : Int) + 1) - 1) kr)
    have HKK := Lib.hid (And.intro kl kr)
    clear h hcel hdo hl hr ihl ihr hls hco hfs hfk kl kr
    have HPOST : Hid (∀ T e w', EOS B (.pointer a) root had room W0 O0 zs (3 * (Tre.node l 0 v r).high + m) T (ex ++ bs') e w' → T = Tre.chg f s (.node l 0 v r) → EOS B (.pointer a) root had room W0 O0 zs (3 * (Tre.node l 0 v r).high + m) (Tre.chg f s (.node l 0 v r)) (ex ++ bs') e w') := Lib.hid fun T e w' h he => he ▸ h
    have HT1 : Hid (s < 2 * (l.size : Int) + 1 → Tre.lev (Tre.chg f s l) 0 v r = Tre.chg f s (.node l 0 v r)) := Lib.hid fun h => by simp only [Tre.chg, if_pos h]
    have HT2 : Hid (¬ s < 2 * (l.size : Int) + 1 → 2 * (l.size : Int) + 1 < s → Tre.lev l 0 v (Tre.chg f (s - (2 * (l.size : Int) + 1) - 1) r) = Tre.chg f s (.node l 0 v r)) := Lib.hid fun h h2 => by simp only [Tre.chg, if_neg h, if_pos h2]
    have HT3 : Hid (¬ s < 2 * (l.size : Int) + 1 → ¬ 2 * (l.size : Int) + 1 < s → f (.node l 0 v r) = Tre.chg f s (.node l 0 v r)) := Lib.hid fun h h2 => by simp only [Tre.chg, if_neg h, if_neg h2]
    have HU1 : Hid (s < 2 * (l.size : Int) + 1 → subT s (.node l 0 v r) = subT s l) := Lib.hid fun h => by simp only [subT, if_pos h]
    have HU2 : Hid (¬ s < 2 * (l.size : Int) + 1 → 2 * (l.size : Int) + 1 < s → subT s (.node l 0 v r) = subT (s - (2 * (l.size : Int) + 1) - 1) r) := Lib.hid fun h h2 => by simp only [subT, if_neg h, if_pos h2]
    have HU3 : Hid (¬ s < 2 * (l.size : Int) + 1 → ¬ 2 * (l.size : Int) + 1 < s → subT s (.node l 0 v r) = .node l 0 v r) := Lib.hid fun h h2 => by simp only [subT, if_neg h, if_neg h2]
    generalize EOS B (.pointer a) root had room W0 O0 zs (3 * (Tre.node l 0 v r).high + m) (Tre.chg f s (.node l 0 v r)) (ex ++ bs') = Post at HPOST ⊢
    go_enter Try.func32, Try.ntmps32
    go_wp2_with fail
    refine HC.out.mono ?_
    rintro e w1 ⟨rfl, hb⟩
    have J1 := Lib.hid (J0.out.below hb)
    have J2 : Hid (EDS B (.pointer a) root had room W0 O0 _ o zs 0 ((w1.heap.size, boxC ⟨ia, ib, 0, v, cs, ch⟩) :: (ex ++ bs))) := Lib.hid (J1.out.alloc (boxC ⟨ia, ib, 0, v, cs, ch⟩))
    clear hb J0 HC s0 s1 hgB J1
    go_upto_region 4 with fail
    obtain ⟨gc, hgc⟩ : ∃ gc, gc = w1.heap.size := ⟨_, rfl⟩
    rw [← hgc] at J2 ⊢
    have HGC := Lib.hid hgc
    clear hgc
    have hfs := fld_s
    go_cut [10] (fun s10 wx => s10 = .int .i64 (2 * (l.size : Int) + 1) ∧ Hid (EDS B (.pointer a) root had room W0 O0 wx o zs 0 ((gc, boxC ⟨ia, ib, 0, v, cs, ch⟩) :: (ex ++ bs))))
    case first =>
      have ⟨u0, u1⟩ := J2.out.scells
      have JDra := Lib.hid J2.out.drew
      refine wp_region_held_drew (S := (fun X => ((X.cell? ⟨B, 0, none⟩ = some (.pointer a) ∧ X.cell? ⟨B, 1, none⟩ = some (.int .i64 root)) ∧ (X.cell? ⟨gc, 0, none⟩ = some (.int .i64 ia) ∧ X.cell? ⟨gc, 1, none⟩ = some (.int .i64 ib) ∧ X.cell? ⟨gc, 2, none⟩ = some (.int .i64 0) ∧ X.cell? ⟨gc, 3, none⟩ = some (.int .i64 v) ∧ X.cell? ⟨gc, 4, none⟩ = some (.int .i64 cs) ∧ X.cell? ⟨gc, 5, none⟩ = some (.int .i64 ch))))) (by kernel_rfl) (⟨JDra.out.scells, JDra.out.box (List.mem_cons_self ..)⟩) (fun hHeld0 => ?_)
      refine wpAnyH_take (i := 0) (v := ?_) rfl (by kernel_rfl) (by kernel_rfl) (by kernel_rfl) (fun _ _ _ h => h) (Or.inl ⟨by rfl, ?yra1⟩) (by assumption) ?qra1
      case yra1 => (intro wz hSw; (try dsimp only at hSw); go_simp <;> with_reducible rfl)
      try simp only [Act.put, List.getElem_toArray, List.getElem_cons_zero, List.setIfInBounds_toArray, List.set_cons_zero, List.set_cons_succ]
      refine wpAnyH_take (i := 1) (v := ?_) rfl (by kernel_rfl) (by kernel_rfl) (by kernel_rfl) (fun _ _ _ h => h) (Or.inl ⟨by rfl, ?yra2⟩) (by assumption) ?qra2
      case yra2 => (intro wz hSw; (try dsimp only at hSw); go_simp <;> with_reducible rfl)
      try simp only [Act.put, List.getElem_toArray, List.getElem_cons_zero, List.getElem_cons_succ, List.setIfInBounds_toArray, List.set_cons_zero, List.set_cons_succ]
      refine wpAnyH_take (i := 2) (v := ?_) rfl (by kernel_rfl) (by kernel_rfl) (by kernel_rfl) (fun _ _ _ h => h) (Or.inl ⟨by rfl, ?yra3⟩) (by assumption) ?qra3
      case yra3 => (intro wz hSw; (try dsimp only at hSw); go_simp <;> with_reducible rfl)
      try simp only [Act.put, List.getElem_toArray, List.getElem_cons_zero, List.getElem_cons_succ, List.setIfInBounds_toArray, List.set_cons_zero, List.set_cons_succ]
      refine wpAnyH_take (i := 3) (v := ?_) rfl (by kernel_rfl) (by kernel_rfl) (by kernel_rfl) (fun _ _ _ h => h) (Or.inl ⟨by rfl, ?yra4⟩) (by assumption) ?qra4
      case yra4 => (intro wz hSw; (try dsimp only at hSw); go_simp <;> with_reducible rfl)
      try simp only [Act.put, List.getElem_toArray, List.getElem_cons_zero, List.getElem_cons_succ, List.setIfInBounds_toArray, List.set_cons_zero, List.set_cons_succ]
      refine wpAnyH_take (i := 4) (v := ?_) rfl (by kernel_rfl) (by kernel_rfl) (by kernel_rfl) (fun _ _ _ h => h) (Or.inl ⟨by rfl, ?yra5⟩) (by assumption) ?qra5
      case yra5 => (intro wz hSw; (try dsimp only at hSw); go_simp <;> with_reducible rfl)
      try simp only [Act.put, List.getElem_toArray, List.getElem_cons_zero, List.getElem_cons_succ, List.setIfInBounds_toArray, List.set_cons_zero, List.set_cons_succ]
      refine wpAnyH_take (i := 5) (v := ?_) rfl (by kernel_rfl) (by kernel_rfl) (by kernel_rfl) (fun _ _ _ h => h) (Or.inl ⟨by rfl, ?yra6⟩) (by assumption) ?qra6
      case yra6 => (intro wz hSw; (try dsimp only at hSw); go_simp <;> with_reducible rfl)
      try simp only [Act.put, List.getElem_toArray, List.getElem_cons_zero, List.getElem_cons_succ, List.setIfInBounds_toArray, List.set_cons_zero, List.set_cons_succ]
      refine wpAnyH_ready (rs := [6]) (by kernel_rfl) (by simp) ?_
      refine AllReadyH.cons rfl (fun K hK => ?_) AllReadyH.nil
      go_simp
      refine (pscell root ia JDra.out.bi.2).mono ?_
      rintro e wra7 ⟨rfl, hbra7⟩
      have Jra7 := Lib.hid (JDra.out.below hbra7)
      clear hbra7
      try go_wp2_with fail
      refine hK.out _ _ (⟨Jra7.out.scells, Jra7.out.box (List.mem_cons_self ..)⟩) (fun hHeld7 => ?_)
      clear hK K
      try simp only [Act.put, List.getElem_toArray, List.getElem_cons_zero, List.getElem_cons_succ, List.setIfInBounds_toArray, List.set_cons_zero, List.set_cons_succ]
      refine wpAnyH_take (i := 7) (v := ?_) rfl (by kernel_rfl) (by kernel_rfl) (by kernel_rfl) (fun _ _ _ h => h) (Or.inl ⟨by rfl, ?yra8⟩) (by assumption) ?qra8
      case yra8 => (intro wz hSw; (try dsimp only at hSw); go_simp <;> with_reducible rfl)
      try simp only [Act.put, List.getElem_toArray, List.getElem_cons_zero, List.getElem_cons_succ, List.setIfInBounds_toArray, List.set_cons_zero, List.set_cons_succ]
      refine wpAnyH_ready (rs := [8]) (by kernel_rfl) (by simp) ?_
      refine AllReadyH.cons rfl (fun K hK => ?_) AllReadyH.nil
      go_simp
      refine (HPL.out _).mono ?_
      rintro e wra9 ⟨rfl, rfl⟩
      try go_wp2_with fail
      refine hK.out _ _ (⟨Jra7.out.scells, Jra7.out.box (List.mem_cons_self ..)⟩) (fun hHeld9 => ?_)
      clear hK K
      try simp only [Act.put, List.getElem_toArray, List.getElem_cons_zero, List.getElem_cons_succ, List.setIfInBounds_toArray, List.set_cons_zero, List.set_cons_succ]
      refine wpAnyH_take (i := 9) (v := ?_) rfl (by kernel_rfl) (by kernel_rfl) (by kernel_rfl) (fun _ _ _ h => h) (Or.inl ⟨by rfl, ?yra10⟩) (by assumption) ?qra10
      case yra10 => (intro wz hSw; (try dsimp only at hSw); go_simp <;> with_reducible rfl)
      try simp only [Act.put, List.getElem_toArray, List.getElem_cons_zero, List.getElem_cons_succ, List.setIfInBounds_toArray, List.set_cons_zero, List.set_cons_succ]
      refine wpAnyH_done (by kernel_rfl) ?_ _
      go_wp2_with fail
      go_meet
      case rel => exact ⟨rfl, Jra7⟩
    case rest =>
    obtain ⟨rfl, J3⟩ := hcut
    clear J2 HPL hfs
    by_cases c1 : s < 2 * (l.size : Int) + 1
    · have IH : Hid (∀ X, EDS B (.pointer a) root had room W0 O0 X o zs 0 ((gc, boxC ⟨ia, ib, 0, v, cs, ch⟩) :: (ex ++ bs)) → Calls Try.prog 32 #[.pointer (some ⟨B, 0, none⟩), .int .i64 ia, .int .i64 s, .func (.func F) #[] cap] X (EOS B (.pointer a) root had room W0 O0 zs (3 * l.high + m) (Tre.chg f s l) ((gc, boxC ⟨ia, ib, 0, v, cs, ch⟩) :: (ex ++ bs')))) := Lib.hid fun X hX => IHL.out s ia X o ((gc, boxC ⟨ia, ib, 0, v, cs, ch⟩) :: ex) bs bs' hX HLL.out HKK.out.1 (by omega) hsb (fun ex w o j h1 h2 => by
        have := HDO.out ex w o j h1 (by rw [HU1.out c1]; exact h2)
        rw [HU1.out c1] at this
        exact this)
      have HT := Lib.hid (HT1.out c1)
      go_upto_region 6 with fail
      obtain ⟨b0, b1, b2, b3, b4, b5⟩ := J3.out.box (List.mem_cons_self ..)
      have JDrb := Lib.hid J3.out.drew
      refine wp_region_held_drew (S := (fun X => (X.cell? ⟨gc, 0, none⟩ = some (.int .i64 ia) ∧ X.cell? ⟨gc, 1, none⟩ = some (.int .i64 ib) ∧ X.cell? ⟨gc, 2, none⟩ = some (.int .i64 0) ∧ X.cell? ⟨gc, 3, none⟩ = some (.int .i64 v) ∧ X.cell? ⟨gc, 4, none⟩ = some (.int .i64 cs) ∧ X.cell? ⟨gc, 5, none⟩ = some (.int .i64 ch)))) (by kernel_rfl) (JDrb.out.box (List.mem_cons_self ..)) (fun hHeld0 => ?_)
      refine wpAnyH_take (i := 0) (v := ?_) rfl (by kernel_rfl) (by kernel_rfl) (by kernel_rfl) (fun _ _ _ h => h) (Or.inl ⟨by rfl, ?yrb1⟩) (by assumption) ?qrb1
      case yrb1 => (intro wz hSw; (try dsimp only at hSw); go_simp <;> with_reducible rfl)
      try simp only [Act.put, List.getElem_toArray, List.getElem_cons_zero, List.setIfInBounds_toArray, List.set_cons_zero, List.set_cons_succ]
      refine wpAnyH_take (i := 1) (v := ?_) rfl (by kernel_rfl) (by kernel_rfl) (by kernel_rfl) (fun _ _ _ h => h) (Or.inl ⟨by rfl, ?yrb2⟩) (by assumption) ?qrb2
      case yrb2 => (intro wz hSw; (try dsimp only at hSw); go_simp <;> with_reducible rfl)
      try simp only [Act.put, List.getElem_toArray, List.getElem_cons_zero, List.getElem_cons_succ, List.setIfInBounds_toArray, List.set_cons_zero, List.set_cons_succ]
      refine wpAnyH_take (i := 2) (v := ?_) rfl (by kernel_rfl) (by kernel_rfl) (by kernel_rfl) (fun _ _ _ h => h) (Or.inl ⟨by rfl, ?yrb3⟩) (by assumption) ?qrb3
      case yrb3 => (intro wz hSw; (try dsimp only at hSw); go_simp <;> with_reducible rfl)
      try simp only [Act.put, List.getElem_toArray, List.getElem_cons_zero, List.getElem_cons_succ, List.setIfInBounds_toArray, List.set_cons_zero, List.set_cons_succ]
      refine wpAnyH_take (i := 3) (v := ?_) rfl (by kernel_rfl) (by kernel_rfl) (by kernel_rfl) (fun _ _ _ h => h) (Or.inl ⟨by rfl, ?yrb4⟩) (by assumption) ?qrb4
      case yrb4 => (intro wz hSw; (try dsimp only at hSw); go_simp <;> with_reducible rfl)
      try simp only [Act.put, List.getElem_toArray, List.getElem_cons_zero, List.getElem_cons_succ, List.setIfInBounds_toArray, List.set_cons_zero, List.set_cons_succ]
      refine wpAnyH_take (i := 4) (v := ?_) rfl (by kernel_rfl) (by kernel_rfl) (by kernel_rfl) (fun _ _ _ h => h) (Or.inl ⟨by rfl, ?yrb5⟩) (by assumption) ?qrb5
      case yrb5 => (intro wz hSw; (try dsimp only at hSw); go_simp <;> with_reducible rfl)
      try simp only [Act.put, List.getElem_toArray, List.getElem_cons_zero, List.getElem_cons_succ, List.setIfInBounds_toArray, List.set_cons_zero, List.set_cons_succ]
      refine wpAnyH_take (i := 5) (v := ?_) rfl (by kernel_rfl) (by kernel_rfl) (by kernel_rfl) (fun _ _ _ h => h) (Or.inl ⟨by rfl, ?yrb6⟩) (by assumption) ?qrb6
      case yrb6 => (intro wz hSw; (try dsimp only at hSw); go_simp <;> with_reducible rfl)
      try simp only [Act.put, List.getElem_toArray, List.getElem_cons_zero, List.getElem_cons_succ, List.setIfInBounds_toArray, List.set_cons_zero, List.set_cons_succ]
      refine wpAnyH_take (i := 7) (v := ?_) rfl (by kernel_rfl) (by kernel_rfl) (by kernel_rfl) (fun _ _ _ h => h) (Or.inl ⟨by rfl, ?yrb7⟩) (by assumption) ?qrb7
      case yrb7 => (intro wz hSw; (try dsimp only at hSw); go_simp <;> with_reducible rfl)
      try simp only [Act.put, List.getElem_toArray, List.getElem_cons_zero, List.getElem_cons_succ, List.setIfInBounds_toArray, List.set_cons_zero, List.set_cons_succ]
      refine wpAnyH_take (i := 8) (v := ?_) rfl (by kernel_rfl) (by kernel_rfl) (by kernel_rfl) (fun _ _ _ h => h) (Or.inl ⟨by rfl, ?yrb8⟩) (by assumption) ?qrb8
      case yrb8 => (intro wz hSw; (try dsimp only at hSw); go_simp <;> with_reducible rfl)
      try simp only [Act.put, List.getElem_toArray, List.getElem_cons_zero, List.getElem_cons_succ, List.setIfInBounds_toArray, List.set_cons_zero, List.set_cons_succ]
      refine wpAnyH_take (i := 9) (v := ?_) rfl (by kernel_rfl) (by kernel_rfl) (by kernel_rfl) (fun _ _ _ h => h) (Or.inl ⟨by rfl, ?yrb9⟩) (by assumption) ?qrb9
      case yrb9 => (intro wz hSw; (try dsimp only at hSw); go_simp <;> with_reducible rfl)
      try simp only [Act.put, List.getElem_toArray, List.getElem_cons_zero, List.getElem_cons_succ, List.setIfInBounds_toArray, List.set_cons_zero, List.set_cons_succ]
      refine wpAnyH_take (i := 10) (v := ?_) rfl (by kernel_rfl) (by kernel_rfl) (by kernel_rfl) (fun _ _ _ h => h) (Or.inl ⟨by rfl, ?yrb10⟩) (by assumption) ?qrb10
      case yrb10 => (intro wz hSw; (try dsimp only at hSw); go_simp <;> with_reducible rfl)
      try simp only [Act.put, List.getElem_toArray, List.getElem_cons_zero, List.getElem_cons_succ, List.setIfInBounds_toArray, List.set_cons_zero, List.set_cons_succ]
      refine wpAnyH_ready (rs := [6]) (by kernel_rfl) (by simp) ?_
      refine AllReadyH.cons rfl (fun K hK => ?_) AllReadyH.nil
      go_simp
      refine (IH.out _ JDrb.out).mono ?_
      rintro e wrb11 ⟨R, orb11, hO, hlen, rfl, jrb11⟩
      have Jrb11 := Lib.hid jrb11
      have HO := Lib.hid hO
      have hix := hO.1.idx
      have hzh := hO.high (by have := HSL.out; omega)
      have hoth : 0 ≤ (celAt R.1 ib).h ∧ (celAt R.1 ib).h ≤ 2000000 := by
          obtain ⟨⟨new, he, _⟩, _⟩ := hO
          rw [he]
          exact (HRR.out.append new).highA (by omega)
      have HLV : Hid (∀ X o, EDI X B (.pointer a) o root had room R.1 R.2.1 → Calls Try.prog 45 #[.pointer (some ⟨B, 0, none⟩), .int .i64 R.2.2, .int .i64 v, .int .i64 ib] X (EDP B (.pointer a) o root had room (levelS room R.1 R.2.1 R.2.2 v ib).1 (levelS room R.1 R.2.1 R.2.2 v ib).2.1 (.int .i64 (levelS room R.1 R.2.1 R.2.2 v ib).2.2) X)) := Lib.hid fun X o h => elevel R.2.2 v ib h (by omega) (by omega) hvb hzh hoth
      have HOZ := Lib.hid (outZ_left (v := v) hO HRR.out HKL.out HKK.out.2 (by have := HSL.out; omega) (by omega) hlen)
      clear hO hlen hix hzh hoth jrb11
      try go_wp2_with fail
      refine hK.out _ _ (Jrb11.out.box (List.mem_cons_self ..)) (fun hHeld11 => ?_)
      clear hK K
      try simp only [Act.put, List.getElem_toArray, List.getElem_cons_zero, List.getElem_cons_succ, List.setIfInBounds_toArray, List.set_cons_zero, List.set_cons_succ]
      refine wpAnyH_ready (rs := [11]) (by kernel_rfl) (by simp) ?_
      refine AllReadyH.cons rfl (fun K hK => ?_) AllReadyH.nil
      go_simp
      refine (HLV.out _ _ Jrb11.out.bi).mono ?_
      intro e wrb12 hs
      have HLN := Lib.hid hs.len
      obtain ⟨rfl, orb12, Jrb12⟩ := Jrb11.out.call hs
      clear hs
      try go_wp2_with fail
      refine hK.out _ _ (Jrb12.out.box (List.mem_cons_self ..)) (fun hHeld12 => ?_)
      clear hK K
      try simp only [Act.put, List.getElem_toArray, List.getElem_cons_zero, List.getElem_cons_succ, List.setIfInBounds_toArray, List.set_cons_zero, List.set_cons_succ]
      refine wpAnyH_take (i := 12) (v := ?_) rfl (by kernel_rfl) (by kernel_rfl) (by kernel_rfl) (fun _ _ _ h => h) (Or.inl ⟨by rfl, ?yrb13⟩) (by assumption) ?qrb13
      case yrb13 => (intro wz hSw; (try dsimp only at hSw); go_simp <;> with_reducible rfl)
      try simp only [Act.put, List.getElem_toArray, List.getElem_cons_zero, List.getElem_cons_succ, List.setIfInBounds_toArray, List.set_cons_zero, List.set_cons_succ]
      refine wpAnyH_done (by kernel_rfl) ?_ _
      go_wp2_with fail
      exact HPOST.out _ _ _ ⟨_, _, HOZ.out.mono (by simp only [Tre.high]; omega), HLN.out, rfl, EDS.tail Jrb12.out⟩ HT.out
    · by_cases c2 : 2 * (l.size : Int) + 1 < s
      · have hw1 : IntKind.i64.wrap (s - (2 * (l.size : Int) + 1)) = s - (2 * (l.size : Int) + 1) := by rw [IntKind.wrap_i64]; omega
        have hw2 : IntKind.i64.wrap (s - (2 * (l.size : Int) + 1) - 1) = s - (2 * (l.size : Int) + 1) - 1 := by rw [IntKind.wrap_i64]; omega
        have IH : Hid (∀ X, EDS B (.pointer a) root had room W0 O0 X o zs 0 ((gc, boxC ⟨ia, ib, 0, v, cs, ch⟩) :: (ex ++ bs)) → Calls Try.prog 32 #[.pointer (some ⟨B, 0, none⟩), .int .i64 ib, .int .i64 (IntKind.i64.wrap (IntKind.i64.wrap (s - (2 * (l.size : Int) + 1)) - 1)), .func (.func F) #[] cap] X (EOS B (.pointer a) root had room W0 O0 zs (3 * r.high + m) (Tre.chg f (s - (2 * (l.size : Int) + 1) - 1) r) ((gc, boxC ⟨ia, ib, 0, v, cs, ch⟩) :: (ex ++ bs')))) := Lib.hid fun X hX => by
          rw [hw1, hw2]
          exact IHR.out (s - (2 * (l.size : Int) + 1) - 1) ib X o ((gc, boxC ⟨ia, ib, 0, v, cs, ch⟩) :: ex) bs bs' hX HRR.out HKK.out.2 (by omega) (by omega) (fun ex w o j h1 h2 => by
            have := HDO.out ex w o j h1 (by rw [HU2.out (by omega) (by omega)]; exact h2)
            rw [HU2.out (by omega) (by omega)] at this
            exact this)
        have HT := Lib.hid (HT2.out (by omega) (by omega))
        clear hw1 hw2
        go_upto_region 8 with fail
        obtain ⟨b0, b1, b2, b3, b4, b5⟩ := J3.out.box (List.mem_cons_self ..)
        have JDrc := Lib.hid J3.out.drew
        refine wp_region_held_drew (S := (fun X => (X.cell? ⟨gc, 0, none⟩ = some (.int .i64 ia) ∧ X.cell? ⟨gc, 1, none⟩ = some (.int .i64 ib) ∧ X.cell? ⟨gc, 2, none⟩ = some (.int .i64 0) ∧ X.cell? ⟨gc, 3, none⟩ = some (.int .i64 v) ∧ X.cell? ⟨gc, 4, none⟩ = some (.int .i64 cs) ∧ X.cell? ⟨gc, 5, none⟩ = some (.int .i64 ch)))) (by kernel_rfl) (JDrc.out.box (List.mem_cons_self ..)) (fun hHeld0 => ?_)
        refine wpAnyH_take (i := 0) (v := ?_) rfl (by kernel_rfl) (by kernel_rfl) (by kernel_rfl) (fun _ _ _ h => h) (Or.inl ⟨by rfl, ?yrc1⟩) (by assumption) ?qrc1
        case yrc1 => (intro wz hSw; (try dsimp only at hSw); go_simp <;> with_reducible rfl)
        try simp only [Act.put, List.getElem_toArray, List.getElem_cons_zero, List.setIfInBounds_toArray, List.set_cons_zero, List.set_cons_succ]
        refine wpAnyH_take (i := 1) (v := ?_) rfl (by kernel_rfl) (by kernel_rfl) (by kernel_rfl) (fun _ _ _ h => h) (Or.inl ⟨by rfl, ?yrc2⟩) (by assumption) ?qrc2
        case yrc2 => (intro wz hSw; (try dsimp only at hSw); go_simp <;> with_reducible rfl)
        try simp only [Act.put, List.getElem_toArray, List.getElem_cons_zero, List.getElem_cons_succ, List.setIfInBounds_toArray, List.set_cons_zero, List.set_cons_succ]
        refine wpAnyH_take (i := 2) (v := ?_) rfl (by kernel_rfl) (by kernel_rfl) (by kernel_rfl) (fun _ _ _ h => h) (Or.inl ⟨by rfl, ?yrc3⟩) (by assumption) ?qrc3
        case yrc3 => (intro wz hSw; (try dsimp only at hSw); go_simp <;> with_reducible rfl)
        try simp only [Act.put, List.getElem_toArray, List.getElem_cons_zero, List.getElem_cons_succ, List.setIfInBounds_toArray, List.set_cons_zero, List.set_cons_succ]
        refine wpAnyH_take (i := 3) (v := ?_) rfl (by kernel_rfl) (by kernel_rfl) (by kernel_rfl) (fun _ _ _ h => h) (Or.inl ⟨by rfl, ?yrc4⟩) (by assumption) ?qrc4
        case yrc4 => (intro wz hSw; (try dsimp only at hSw); go_simp <;> with_reducible rfl)
        try simp only [Act.put, List.getElem_toArray, List.getElem_cons_zero, List.getElem_cons_succ, List.setIfInBounds_toArray, List.set_cons_zero, List.set_cons_succ]
        refine wpAnyH_take (i := 4) (v := ?_) rfl (by kernel_rfl) (by kernel_rfl) (by kernel_rfl) (fun _ _ _ h => h) (Or.inl ⟨by rfl, ?yrc5⟩) (by assumption) ?qrc5
        case yrc5 => (intro wz hSw; (try dsimp only at hSw); go_simp <;> with_reducible rfl)
        try simp only [Act.put, List.getElem_toArray, List.getElem_cons_zero, List.getElem_cons_succ, List.setIfInBounds_toArray, List.set_cons_zero, List.set_cons_succ]
        refine wpAnyH_take (i := 5) (v := ?_) rfl (by kernel_rfl) (by kernel_rfl) (by kernel_rfl) (fun _ _ _ h => h) (Or.inl ⟨by rfl, ?yrc6⟩) (by assumption) ?qrc6
        case yrc6 => (intro wz hSw; (try dsimp only at hSw); go_simp <;> with_reducible rfl)
        try simp only [Act.put, List.getElem_toArray, List.getElem_cons_zero, List.getElem_cons_succ, List.setIfInBounds_toArray, List.set_cons_zero, List.set_cons_succ]
        refine wpAnyH_take (i := 6) (v := ?_) rfl (by kernel_rfl) (by kernel_rfl) (by kernel_rfl) (fun _ _ _ h => h) (Or.inl ⟨by rfl, ?yrc7⟩) (by assumption) ?qrc7
        case yrc7 => (intro wz hSw; (try dsimp only at hSw); go_simp <;> with_reducible rfl)
        try simp only [Act.put, List.getElem_toArray, List.getElem_cons_zero, List.getElem_cons_succ, List.setIfInBounds_toArray, List.set_cons_zero, List.set_cons_succ]
        refine wpAnyH_take (i := 7) (v := ?_) rfl (by kernel_rfl) (by kernel_rfl) (by kernel_rfl) (fun _ _ _ h => h) (Or.inl ⟨by rfl, ?yrc8⟩) (by assumption) ?qrc8
        case yrc8 => (intro wz hSw; (try dsimp only at hSw); go_simp <;> with_reducible rfl)
        try simp only [Act.put, List.getElem_toArray, List.getElem_cons_zero, List.getElem_cons_succ, List.setIfInBounds_toArray, List.set_cons_zero, List.set_cons_succ]
        refine wpAnyH_take (i := 8) (v := ?_) rfl (by kernel_rfl) (by kernel_rfl) (by kernel_rfl) (fun _ _ _ h => h) (Or.inl ⟨by rfl, ?yrc9⟩) (by assumption) ?qrc9
        case yrc9 => (intro wz hSw; (try dsimp only at hSw); go_simp <;> with_reducible rfl)
        try simp only [Act.put, List.getElem_toArray, List.getElem_cons_zero, List.getElem_cons_succ, List.setIfInBounds_toArray, List.set_cons_zero, List.set_cons_succ]
        refine wpAnyH_take (i := 9) (v := ?_) rfl (by kernel_rfl) (by kernel_rfl) (by kernel_rfl) (fun _ _ _ h => h) (Or.inl ⟨by rfl, ?yrc10⟩) (by assumption) ?qrc10
        case yrc10 => (intro wz hSw; (try dsimp only at hSw); go_simp <;> with_reducible rfl)
        try simp only [Act.put, List.getElem_toArray, List.getElem_cons_zero, List.getElem_cons_succ, List.setIfInBounds_toArray, List.set_cons_zero, List.set_cons_succ]
        refine wpAnyH_take (i := 10) (v := ?_) rfl (by kernel_rfl) (by kernel_rfl) (by kernel_rfl) (fun _ _ _ h => h) (Or.inl ⟨by rfl, ?yrc11⟩) (by assumption) ?qrc11
        case yrc11 => (intro wz hSw; (try dsimp only at hSw); go_simp <;> with_reducible rfl)
        try simp only [Act.put, List.getElem_toArray, List.getElem_cons_zero, List.getElem_cons_succ, List.setIfInBounds_toArray, List.set_cons_zero, List.set_cons_succ]
        refine wpAnyH_take (i := 11) (v := ?_) rfl (by kernel_rfl) (by kernel_rfl) (by kernel_rfl) (fun _ _ _ h => h) (Or.inl ⟨by rfl, ?yrc12⟩) (by assumption) ?qrc12
        case yrc12 => (intro wz hSw; (try dsimp only at hSw); go_simp <;> with_reducible rfl)
        try simp only [Act.put, List.getElem_toArray, List.getElem_cons_zero, List.getElem_cons_succ, List.setIfInBounds_toArray, List.set_cons_zero, List.set_cons_succ]
        refine wpAnyH_take (i := 12) (v := ?_) rfl (by kernel_rfl) (by kernel_rfl) (by kernel_rfl) (fun _ _ _ h => h) (Or.inl ⟨by rfl, ?yrc13⟩) (by assumption) ?qrc13
        case yrc13 => (intro wz hSw; (try dsimp only at hSw); go_simp <;> with_reducible rfl)
        try simp only [Act.put, List.getElem_toArray, List.getElem_cons_zero, List.getElem_cons_succ, List.setIfInBounds_toArray, List.set_cons_zero, List.set_cons_succ]
        refine wpAnyH_ready (rs := [13]) (by kernel_rfl) (by simp) ?_
        refine AllReadyH.cons rfl (fun K hK => ?_) AllReadyH.nil
        go_simp
        refine (IH.out _ JDrc.out).mono ?_
        rintro e wrc14 ⟨R, orc14, hO, hlen, rfl, jrc14⟩
        have Jrc14 := Lib.hid jrc14
        have HO := Lib.hid hO
        have hix := hO.1.idx
        have hzh := hO.high (by have := HSR.out; omega)
        have hoth : 0 ≤ (celAt R.1 ia).h ∧ (celAt R.1 ia).h ≤ 2000000 := by
            obtain ⟨⟨new, he, _⟩, _⟩ := hO
            rw [he]
            exact (HLL.out.append new).highA (by omega)
        have HLV : Hid (∀ X o, EDI X B (.pointer a) o root had room R.1 R.2.1 → Calls Try.prog 45 #[.pointer (some ⟨B, 0, none⟩), .int .i64 ia, .int .i64 v, .int .i64 R.2.2] X (EDP B (.pointer a) o root had room (levelS room R.1 R.2.1 ia v R.2.2).1 (levelS room R.1 R.2.1 ia v R.2.2).2.1 (.int .i64 (levelS room R.1 R.2.1 ia v R.2.2).2.2) X)) := Lib.hid fun X o h => elevel ia v R.2.2 h (by omega) (by omega) hvb hoth hzh
        have HOZ := Lib.hid (outZ_right (v := v) hO HLL.out HKR.out HKK.out.1 (by have := HSR.out; omega) (by omega) hlen)
        clear hO hlen hix hzh hoth jrc14
        try go_wp2_with fail
        refine hK.out _ _ (Jrc14.out.box (List.mem_cons_self ..)) (fun hHeld14 => ?_)
        clear hK K
        try simp only [Act.put, List.getElem_toArray, List.getElem_cons_zero, List.getElem_cons_succ, List.setIfInBounds_toArray, List.set_cons_zero, List.set_cons_succ]
        refine wpAnyH_ready (rs := [14]) (by kernel_rfl) (by simp) ?_
        refine AllReadyH.cons rfl (fun K hK => ?_) AllReadyH.nil
        go_simp
        refine (HLV.out _ _ Jrc14.out.bi).mono ?_
        intro e wrc15 hs
        have HLN := Lib.hid hs.len
        obtain ⟨rfl, orc15, Jrc15⟩ := Jrc14.out.call hs
        clear hs
        try go_wp2_with fail
        refine hK.out _ _ (Jrc15.out.box (List.mem_cons_self ..)) (fun hHeld15 => ?_)
        clear hK K
        try simp only [Act.put, List.getElem_toArray, List.getElem_cons_zero, List.getElem_cons_succ, List.setIfInBounds_toArray, List.set_cons_zero, List.set_cons_succ]
        refine wpAnyH_take (i := 15) (v := ?_) rfl (by kernel_rfl) (by kernel_rfl) (by kernel_rfl) (fun _ _ _ h => h) (Or.inl ⟨by rfl, ?yrc16⟩) (by assumption) ?qrc16
        case yrc16 => (intro wz hSw; (try dsimp only at hSw); go_simp <;> with_reducible rfl)
        try simp only [Act.put, List.getElem_toArray, List.getElem_cons_zero, List.getElem_cons_succ, List.setIfInBounds_toArray, List.set_cons_zero, List.set_cons_succ]
        refine wpAnyH_done (by kernel_rfl) ?_ _
        go_wp2_with fail
        exact HPOST.out _ _ _ ⟨_, _, HOZ.out.mono (by simp only [Tre.high]; omega), HLN.out, rfl, EDS.tail Jrc15.out⟩ HT.out
      · have HD := Lib.hid (HDO.out ((gc, boxC ⟨ia, ib, 0, v, cs, ch⟩) :: ex) wc o i J3.out (by rw [HU3.out (by omega) (by omega)]; exact HTN.out))
        unfold celV at HD
        rw [HCV.out, HU3.out (by omega) (by omega)] at HD
        have HT := Lib.hid (HT3.out (by omega) (by omega))
        obtain ⟨b0, b1, b2, b3, b4, b5⟩ := J3.out.box (List.mem_cons_self ..)
        go_upto_region 9 with fail
        iterate 9 go_step
        refine HD.out.mono ?_
        rintro e w5 ⟨R, o5, hO, hl, rfl, j5⟩
        have HO := Lib.hid (And.intro hO (And.intro hl j5))
        clear hO hl j5
        go_wp2_with fail
        exact HPOST.out _ _ _ ⟨R, o5, HO.out.1.mono (by omega), HO.out.2.1, rfl, EDS.tail HO.out.2.2⟩ HT.out
end Go.Proofs.Ytbgepeokadmemaa.F
