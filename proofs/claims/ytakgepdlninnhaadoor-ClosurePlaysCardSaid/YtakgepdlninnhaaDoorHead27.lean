/-
  Contracts of small functions, several texts laid into one. Not a statement of the seat.
-/
import Derived.Test.YtakgepdlninnhaaDoorHead21
import Derived.Test.YtakgepdlninnhaaDoorHead26
import Derived.Test.YtakgepdlninnhaaDoorLstSame
import Derived.Deep.DeepCutAuto
import Derived.Test.YtakgepdlninnhaaDoorHead2
import Derived.Deep.RegionHeld3
namespace Go.Proofs.YtakgepdlninnhaaDoor.Cs
open Go.ChangeShapes Go.WideShapes Go.ChangeAt Go.RowKit Base F Bits Df Cl Sc Gr Rf
theorem goA_len (a : Arc) : ∀ (b : Bool) (l : List Arc), (goA a b l).length ≤ l.length + (if b then 0 else 1)
  | b, [] => by cases b <;> simp [goA]
  | b, x :: l => by
    have ih1 := goA_len a true l
    have ih2 := goA_len a false l
    rw [goA, List.length_append, List.length_append]
    simp only [List.length_cons]
    cases b <;> cases lessA x a <;> cases Arc.beq x a <;> simp at ih1 ih2 ⊢ <;> omega
theorem arcsP_snoc (l : List Pai) (p : Pai) : arcsP (prs (l ++ [p])) = goA ⟨p.k, p.v, 1, 0⟩ false (arcsP (prs l)) := by
  unfold arcsP prs
  rw [List.map_append, List.foldl_append]
  rfl
theorem arcsP_len : ∀ (l : List Pai), (arcsP (prs l)).length ≤ l.length := by
  intro l
  have key : ∀ k, k ≤ l.length → (arcsP (prs (l.take k))).length ≤ k := by
    intro k
    induction k with
    | zero => intro _; simp [arcsP, prs]
    | succ k ih =>
      intro hk
      rw [take_next (by omega), arcsP_snoc]
      have := goA_len ⟨(l.getD k Pai.zero).k, (l.getD k Pai.zero).v, 1, 0⟩ false (arcsP (prs (l.take k)))
      have := ih (by omega)
      simp at *
      omega
  have := key l.length (Nat.le_refl _)
  rwa [List.take_length] at this
theorem arc_own {B : Nat} {w : World} {v : Value} {zs : List Arc} (h : OwnArc B w v zs) (hl : zs.length ≤ 100000) : F.Arcs 0 w v zs := by
  have := h.list (by omega)
  exact this.mono (Nat.zero_le _)
set_option maxRecDepth 100000 in
set_option maxHeartbeats 4000000 in
theorem rarcs_any {pv : Value} {l : List Pai} (w : World) (h : Pais 0 w pv l) (hl : l.length ≤ 1000) : Calls Tryd.prog 23 #[pv] w fun e w' => ∃ v, e = .returned v ∧ F.Arcs 0 w' v (arcsP (prs l)) ∧ Below w.heap.size w w' := by
  obtain ⟨p, c, rfl, _, hc⟩ := h.open_
  have HC := Lib.hid hc
  obtain ⟨L, hL⟩ : ∃ L, L = l.length := ⟨_, rfl⟩
  have HL := Lib.hid hL
  have hLi : (L : Int) ≤ 1000 := by omega
  rw [← hL] at HC ⊢
  clear h hc hL hl
  go_enter Tryd.func23, Tryd.ntmps23
  go_wp2_with fail
  go_loopw [3, 8] (fun s3 s8 wr => ∃ k : Nat, s8 = .int .i64 (k : Int) ∧ k ≤ L ∧ ∃ v, v = s3 ∧ Hid (F.Arcs 0 wr v (arcsP (prs (l.take k))) ∧ Below w.heap.size w wr)) (fun _ s8 _ => L - (intOf s8).toNat)
  case atStart => exact ⟨(0 : Nat), rfl, Nat.zero_le _, _, rfl, Lib.hid ⟨by rw [List.take_zero]; exact .inl ⟨⟨none, 0, rfl, fun _ => rfl⟩, rfl⟩, Below.refl _ _⟩⟩
  case round =>
    obtain ⟨k, rfl, hk, v3, hv3, HI⟩ := hrel
    subst hv3
    by_cases hlt : k < L
    · obtain ⟨g, o, rfl, _, hg, c0, c1⟩ := HC.out k hlt
      have c0 := (HI.out.2.cell (p := ⟨g, _, none⟩) hg).trans c0
      have c1 := (HI.out.2.cell (p := ⟨g, _, none⟩) hg).trans c1
      have hg := Nat.lt_of_lt_of_le hg HI.out.2.size
      have hki : (k : Int) < (L : Int) := by omega
      have HTK : Hid (l.take (k + 1) = l.take k ++ [l.getD k Pai.zero]) := Lib.hid (take_next (by have := HL.out; omega))
      generalize l.getD k Pai.zero = x at c0 c1 HTK
      obtain ⟨x0, x1⟩ := x
      dsimp only at c0 c1
      have hbx : ∀ ob, Below wr.heap.size wr (wr.alloc ob) := fun ob => (Below.refl _ _).alloc (Nat.le_refl _) ob
      have hln : (arcsP (prs (l.take k))).length ≤ 1000 := by have := arcsP_len (l.take k); rw [List.length_take] at this; omega
      have HPU := Lib.hid (fun ob => gput_any (⟨x0, x1, 1, 0⟩ : Arc) (wr.alloc ob) (HI.out.1.below (hbx ob)) (by omega))
      unfold vA at HPU
      dsimp only at HPU
      have HBX : Hid (∀ ob, Below w.heap.size w (wr.alloc ob)) := Lib.hid fun ob => HI.out.2.trans ((hbx ob).mono HI.out.2.size)
      have HLN := Lib.hid hln
      have HE : Hid (goA ⟨x0, x1, 1, 0⟩ false (arcsP (prs (l.take k))) = arcsP (prs (l.take (k + 1)))) := Lib.hid (by rw [HTK.out, arcsP_snoc])
      clear hbx hln HTK HI
      go_wp2_with fail
      refine (HPU.out _).mono ?_
      rintro e w5 ⟨v5, rfl, ha5, ho5⟩
      have HN : Hid (F.Arcs 0 w5 v5 (arcsP (prs (l.take (k + 1)))) ∧ Below w.heap.size w w5) := Lib.hid ⟨by
        rw [← HE.out]
        refine arc_own ho5 ?_
        have := goA_len ⟨x0, x1, 1, 0⟩ false (arcsP (prs (l.take k)))
        have := HLN.out
        simp at *
        omega, (HBX.out _).trans (ha5.mono (HBX.out _).size)⟩
      clear ha5 ho5 HPU HBX c0 c1 hg
      go_wp2_with fail
      go_roundw
      case rel => exact ⟨k + 1, by go_num, by omega, _, rfl, HN⟩
      case measure => simp [intOf]; omega
    · have hke : k = L := by omega
      have HN : Hid (F.Arcs 0 wr v3 (arcsP (prs l)) ∧ Below w.heap.size w wr) := Lib.hid (by
        have := HI.out
        rwa [hke, HL.out, List.take_length] at this)
      have hki : ¬ (k : Int) < (L : Int) := by omega
      clear HI hke
      go_wp2
      go_ret
      exact ⟨_, rfl, HN.out.1, HN.out.2⟩
/-- The rows, list by list. -/
def rowsD (q : List Pai) (n : Nat) : List (List Int) := (List.range n).map fun (i : Nat) => rowD q (i : Int)
theorem own_down' {B B' : Nat} {w : World} {v : Value} {zs : List Int} (h : Lst.OwnI B' w v zs) (hb : B ≤ B') : Lst.OwnI B w v zs := by
  refine ⟨h.1, ?_⟩
  rcases h.2 with h2 | ⟨g, cap, cur, h1, h2, h3⟩
  · exact .inl h2
  · exact .inr ⟨g, cap, cur, h1, Nat.le_trans hb h2, h3⟩
theorem own_row_down {B B' : Nat} {w : World} {e : TypeId} {size n : Nat} {v : Value} {xs : List Value} (h : w.ownsRow B' e size v n xs) (hb : B ≤ B') : w.ownsRow B e size v n xs := by
  refine ⟨h.1, ?_⟩
  rcases h.2 with h2 | ⟨g, cap, cur, h1, h2, h3⟩
  · exact .inl h2
  · exact .inr ⟨g, cap, cur, h1, Nat.le_trans hb h2, h3⟩
theorem al_down {w w1 w' : World} {v : Value} {vs : List Value} {ls : List (List Int)} (h : AL w1.heap.size w1 w' v vs ls) (hb : Below w.heap.size w w1) : AL w.heap.size w w' v vs ls :=
  ⟨own_row_down h.own hb.size, hb.trans (h.below.mono hb.size), Nat.le_trans hb.size h.size, h.len, fun i hi => own_down' (h.each i hi) hb.size⟩
set_option maxRecDepth 100000 in
set_option maxHeartbeats 8000000 in
theorem rrows_any {pv : Value} {l : List Pai} (n : Nat) (w : World) (h : Pais 0 w pv l) (hl : l.length ≤ 50) (hn : n ≤ 12) : Calls Tryd.prog 8 #[.int .i64 (n : Int), pv] w fun e w' => ∃ v vs, e = .returned v ∧ AL w.heap.size w w' v vs (rowsD l n) := by
  have HAR := Lib.hid (rarcs_any w h (by omega))
  obtain ⟨R, hR⟩ : ∃ R : Nat → List Int, R = fun k : Nat => rowD l (k : Int) := ⟨_, rfl⟩
  have HR : Hid (∀ k : Nat, R k = reachR (arcsP (prs l)) (k : Int)) := Lib.hid fun k => by rw [hR]; rfl
  have HRS : Hid (rowsD l n = (List.range n).map R) := Lib.hid (by rw [hR]; rfl)
  have hal := arcsP_len l
  have HALN : Hid ((arcsP (prs l)).length ≤ 60) := Lib.hid (by omega)
  have hni : (n : Int) ≤ 12 := by omega
  rw [HRS.out]
  clear h hl hR hn hal
  go_enter Tryd.func8, Tryd.ntmps8
  go_wp2_with fail
  refine HAR.out.mono ?_
  rintro e w1 ⟨v1, rfl, ha1, hb1⟩
  have HRE : Hid (∀ W (k : Nat), Below w1.heap.size w1 W → Calls Tryd.prog 24 #[v1, .int .i64 (k : Int)] W (NumN W (R k))) := Lib.hid fun W k hW => by
    rw [HR.out]
    exact reach_any (k : Int) W (ha1.below hW) HALN.out
  have H0 : Hid (AL w1.heap.size w1 w1 (.slice none 0 0) [] []) := Lib.hid (AL.start w1)
  have HB1 := Lib.hid hb1
  clear ha1 hb1 HAR HALN
  go_wp2_with fail
  go_loopw [6, 7] (fun s6 s7 wr => ∃ (i : Nat) (u : Value), s7 = .int .i64 (i : Int) ∧ u = s6 ∧ i ≤ n ∧ Hid (∃ vs, AL w1.heap.size w1 wr u vs ((List.range i).map R))) (fun _ s7 _ => n - (intOf s7).toNat)
  case atStart => exact ⟨0, _, rfl, rfl, Nat.zero_le _, Lib.hid ⟨[], H0.out⟩⟩
  case round =>
    clear H0
    obtain ⟨i, u, rfl, rfl, hi, HA⟩ := hrel
    obtain ⟨vs, hal⟩ := HA.out
    by_cases hlt : i < n
    · have hii : (i : Int) < (n : Int) := by omega
      have HC := Lib.hid (HRE.out wr i hal.below)
      have HAL := Lib.hid hal
      have hvl : vs.length = i := by rw [hal.len]; simp
      have HVL := Lib.hid hvl
      clear HA hal hvl
      go_wp2_with fail
      refine HC.out.mono ?_
      rintro e w2 ⟨v19, rfl, ho, hb⟩
      obtain ⟨p9, n9, c9, hv9⟩ : ∃ p n c, v19 = .slice p n c := by
        rcases ho.form with ⟨_, hv⟩ | ⟨g, cap, hv, _⟩
        · exact ⟨_, _, _, hv⟩
        · exact ⟨_, _, _, hv⟩
      subst hv9
      have HA1 := Lib.hid (HAL.out.below_ hb)
      have HO1 : Hid (Lst.OwnI w1.heap.size w2 (.slice p9 n9 c9) (R i)) := Lib.hid (own_down' ho HAL.out.size)
      clear ho hb HC HAL
      go_wp2_with (at_builtin; refine append_sl rfl (.tmp 15) (.tmp 19) rfl (B := w1.heap.size) (vs := vs) (Nat.le_trans HA1.out.size (by simp)) (World.ownsRow.alloc HA1.out.own _) rfl (heap_alloc_at _ _ _ rfl) rfl rfl (by have := HVL.out; omega) ?_; intro v2 w3 ho2 hg2)
      have HA2 := Lib.hid (HA1.out.app HO1.out ho2 hg2)
      have HRN : Hid ((List.range i).map R ++ [R i] = (List.range (i + 1)).map R) := Lib.hid (by rw [List.range_succ]; simp)
      rw [HRN.out] at HA2
      clear ho2 hg2 HA1 HO1
      go_wp2_with fail
      go_roundw
      case rel => exact ⟨i + 1, v2, by go_num, rfl, by omega, Lib.hid ⟨_, HA2.out⟩⟩
      case measure => simp [intOf]; omega
    · have e : i = n := by omega
      subst e
      have HF := Lib.hid (al_down hal HB1.out)
      have hii : ¬ (i : Int) < (i : Int) := by omega
      clear HA hal HRE hi hlt
      go_wp2
      go_ret
      exact ⟨u, rfl, vs, HF.out⟩
end Go.Proofs.YtakgepdlninnhaaDoor.Cs
namespace Go.Proofs.YtakgepdlninnhaaDoor.Cs
open Go.ChangeShapes Go.WideShapes Go.ChangeAt Go.RowKit Base F Bits Df Cl Sc Gr
theorem there_any (m : Nat) (u : Int) (w : World) : Calls Tryd.prog 21 #[.int .i64 (m : Int), .int .i64 u] w fun e w' => e = .returned (.bool (isN m u)) ∧ w = w' := by
  by_cases h1 : 0 ≤ u
  · by_cases h2 : u < (m : Int)
    · rw [show isN m u = true from decide_eq_true ⟨h1, h2⟩]
      go_enter Tryd.func21, Tryd.ntmps21
      go_wp2
      go_ret
      exact ⟨rfl, rfl⟩
    · rw [show isN m u = false from decide_eq_false (fun e => h2 e.2)]
      go_enter Tryd.func21, Tryd.ntmps21
      go_wp2
      go_ret
      exact ⟨rfl, rfl⟩
  · rw [show isN m u = false from decide_eq_false (fun e => h1 e.1)]
    go_enter Tryd.func21, Tryd.ntmps21
    go_wp2
    go_ret
    exact ⟨rfl, rfl⟩
/-- What a deed makes of the arcs, and what is told. -/
def stepQ (m : Nat) (q : List Pai) (d : Dd24) : List Pai × Int :=
  if isN m d.u = true ∧ isN m d.v = true then (if d.kind = 0 then (q ++ [⟨d.u, d.v⟩], 0) else if cntP q d.u d.v = 0 then (q, 3) else (dropP q d.u d.v, 0)) else (q, 1)
def StepP (r : List Pai × Int) (w : World) (e : Ending) (w' : World) : Prop := ∃ v', e = .returned (.tuple #[v', .int .i64 r.2]) ∧ OwnPai 0 w' v' r.1 ∧ Below w.heap.size w w'
theorem pai_form {B : Nat} {w : World} {v : Value} {zs : List Pai} (h : OwnPai B w v zs) {k : Nat} (hk : zs.length = k) : ∃ p c, v = .slice p k c := by
  subst hk
  rcases h.2 with ⟨hv, h0⟩ | ⟨g, cap, cur, hv, _⟩
  · exact ⟨none, 0, by rw [hv, h0]⟩
  · exact ⟨_, cap, hv⟩
theorem pai_zero {B : Nat} {w : World} {v : Value} {zs : List Pai} (h : OwnPai B w v zs) : OwnPai 0 w v zs := own_row_down h (Nat.zero_le _)
set_option maxRecDepth 100000 in
set_option maxHeartbeats 8000000 in
theorem step_any (m : Nat) (q : List Pai) (d : Dd24) (w : World) {lv : Value} (h : OwnPai 0 w lv q) (hq : q.length ≤ 100) : Calls Tryd.prog 9 #[.int .i64 (m : Int), lv, .agg #[.int .i64 d.kind, .int .i64 d.u, .int .i64 d.v]] w (StepP (stepQ m q d) w) := by
  obtain ⟨kd, u, v⟩ := d
  have HT1 := Lib.hid (there_any m u)
  have HT2 := Lib.hid (there_any m v)
  obtain ⟨w1, hw1⟩ : ∃ X, X = w.alloc (.cells #[.int .i64 kd, .int .i64 u, .int .i64 v] 32) := ⟨_, rfl⟩
  have hb1 : Below w.heap.size w w1 := by rw [hw1]; exact (Below.refl _ _).alloc (Nat.le_refl _) _
  have hx1 : w1.heap[w.heap.size]? = some (.cells #[.int .i64 kd, .int .i64 u, .int .i64 v] 32) := by rw [hw1]; exact heap_alloc_at _ _ _ rfl
  have HB1 := Lib.hid hb1
  have HO1 := Lib.hid (OwnPai.below h hb1)
  have HX1 := Lib.hid hx1
  have hcl : w1.cell? ⟨w.heap.size, 0, none⟩ = some (.int .i64 kd) ∧ w1.cell? ⟨w.heap.size, 1, none⟩ = some (.int .i64 u) ∧ w1.cell? ⟨w.heap.size, 2, none⟩ = some (.int .i64 v) := by simp [World.cell?, hx1]
  obtain ⟨c0, c1, c2⟩ := hcl
  obtain ⟨p, c, hlv⟩ := pai_form h rfl
  subst hlv
  have HQ := Lib.hid hq
  have hgx := heap_lt hx1
  obtain ⟨gx, hgxe⟩ : ∃ g, g = w.heap.size := ⟨_, rfl⟩
  obtain ⟨K, hK⟩ : ∃ K, K = q.length := ⟨_, rfl⟩
  have HKK := Lib.hid hK
  have HKL : Hid ((q ++ [(⟨u, v⟩ : Pai)]).length = K + 1) := Lib.hid (by rw [List.length_append, hK]; rfl)
  rw [← hK] at HO1 ⊢
  rw [← hgxe] at c0 c1 c2 hgx HX1
  have HGX := Lib.hid hgxe
  clear h hb1 hx1 hq hK
  have hstep : stepQ m q ⟨kd, u, v⟩ = if isN m u = true ∧ isN m v = true then (if kd = 0 then (q ++ [⟨u, v⟩], 0) else if cntP q u v = 0 then (q, 3) else (dropP q u v, 0)) else (q, 1) := rfl
  have HNO : Hid (∀ y, StepP (q, y) w (.returned (.tuple #[.slice p K c, .int .i64 y])) w1) := Lib.hid fun y => ⟨_, rfl, HO1.out, HB1.out⟩
  cases hu : isN m u with
  | false =>
    rw [hu] at HT1 hstep
    rw [if_neg (by simp)] at hstep
    rw [hstep]
    clear hstep
    go_enter Tryd.func9, Tryd.ntmps9
    go_wp2_with fail
    rw [← hw1, ← hgxe]
    refine (HT1.out _).mono ?_
    rintro e _ ⟨rfl, rfl⟩
    clear hw1 hgxe
    go_wp2
    go_ret2
    exact HNO.out 1
  | true =>
    rw [hu] at HT1 hstep
    cases hv : isN m v with
    | false =>
      rw [hv] at HT2 hstep
      rw [if_neg (by simp)] at hstep
      rw [hstep]
      clear hstep
      go_enter Tryd.func9, Tryd.ntmps9
      go_wp2_with fail
      rw [← hw1, ← hgxe]
      refine (HT1.out _).mono ?_
      rintro e _ ⟨rfl, rfl⟩
      clear hw1 hgxe
      go_wp2_with fail
      refine (HT2.out _).mono ?_
      rintro e _ ⟨rfl, rfl⟩
      go_wp2
      go_ret2
      exact HNO.out 1
    | true =>
      rw [hv] at HT2 hstep
      rw [if_pos ⟨rfl, rfl⟩] at hstep
      by_cases hk : kd = 0
      · subst hk
        rw [if_pos rfl] at hstep
        rw [hstep]
        clear hstep
        go_enter Tryd.func9, Tryd.ntmps9
        go_wp2_with fail
        rw [← hw1, ← hgxe]
        refine (HT1.out _).mono ?_
        rintro e _ ⟨rfl, rfl⟩
        clear hw1 hgxe
        go_wp2_with fail
        refine (HT2.out _).mono ?_
        rintro e _ ⟨rfl, rfl⟩
        have HFIN : Hid (∀ v2 wb, OwnPai 0 wb v2 (q ++ [(⟨u, v⟩ : Pai)]) → Below w1.heap.size w1 wb → ∃ p c, v2 = .slice p (K + 1) c ∧ Hid (StepP (q ++ [⟨u, v⟩], 0) w (.returned (.tuple #[.slice p (K + 1) c, .int .i64 0])) wb)) := Lib.hid fun v2 wb ho hb => by
          obtain ⟨p2, c2, rfl⟩ := pai_form ho HKL.out
          exact ⟨p2, c2, rfl, Lib.hid ⟨_, rfl, ho, HB1.out.trans (hb.mono HB1.out.size)⟩⟩
        have HW1 : Hid (∀ X, Below w1.heap.size w1 X → X.cell? ⟨gx, 0, none⟩ = some (.int .i64 0) ∧ X.cell? ⟨gx, 1, none⟩ = some (.int .i64 u) ∧ X.cell? ⟨gx, 2, none⟩ = some (.int .i64 v)) := Lib.hid fun X hX => by
          have := cell_below HX1.out hX
          simp [World.cell?, this]
        go_wp2_with fail
        go_region_law (first
          | (refine step_append_pais (v := .slice (some ⟨_, 0, none⟩) 0 0) (zs := []) rfl (.tmp 24) (.tmp 25) rfl (Nat.zero_le _) (ownPai_empty (Nat.zero_le _) (by first | exact heap_alloc_at _ _ _ (by simp) | exact heap_alloc_lt _ _ _ _ (heap_alloc_at _ _ _ (by simp)))) rfl (((HO1.out.list (by have := HKK.out; have := HQ.out; omega))).below (by go_grown)) rfl (by have := HQ.out; simp; omega) ?_
             intro v1 wa ho1 hg1 hat1
             rw [List.nil_append] at ho1
             have HB2 : Hid (Below w1.heap.size w1 wa) := Lib.hid (Below.grown (by go_grown) hg1 (by first | (simp; done) | (simp; omega)) (fun k hk => by simp [Value.ownBlock] at hk; omega))
             obtain ⟨b0, b1, b2⟩ := HW1.out _ HB2.out
             have HQ1 : Hid (∃ g, v1.ownBlock = some g ∧ w1.heap.size ≤ g) := Lib.hid (by
               rcases hat1 with h | h
               · exact ⟨_, h, by first | (simp; done) | (simp; omega)⟩
               · exact ⟨_, h, by first | (simp; done) | (simp; omega)⟩)
             have HO2 := Lib.hid ho1
             have HG2 := Lib.hid hg1
             clear ho1 hg1 hat1)
          | (refine step_append_pais (v := v1) (zs := q) rfl (.tmp 26) (.tmp 32) rfl (Nat.zero_le _) (by first | exact HO2.out.lay rfl _ | exact HO2.out) rfl (by first | exact pai_lit ⟨u, v⟩ _ | exact pai_at ⟨u, v⟩ ((HG2.out.block _ (by first | (simp; done) | (simp; omega)) (by first | (simp [Value.ownBlock]; done) | (simp [Value.ownBlock]; omega))).trans (by first | exact heap_alloc_at _ _ _ (by simp) | exact heap_alloc_lt _ _ _ _ (heap_alloc_at _ _ _ (by simp))))) rfl (by have := HQ.out; simp; omega) ?_
             intro v2 wb ho2 hg2 hat2
             obtain ⟨p2, cc2, rfl, HE⟩ := HFIN.out v2 wb ho2 (by
               obtain ⟨gq, e1, e2⟩ := HQ1.out
               first
               | exact Below.grown (HB2.out.alloc HB2.out.size _) hg2 (by have := HB2.out.size; simp; omega) (fun k hk => by rw [e1] at hk; injection hk with hk; omega)
               | exact Below.grown HB2.out hg2 HB2.out.size (fun k hk => by rw [e1] at hk; injection hk with hk; omega))
             clear ho2 hg2 hat2))
        all_goals go_wp2
        all_goals go_ret2
        all_goals exact HE.out
      · rw [if_neg hk] at hstep
        have hkb : (kd == 0) = false := by rw [beq_eq_false_iff_ne]; exact hk
        have HCN := Lib.hid (rcount_any w1 (HO1.out.list (by have := HKK.out; have := HQ.out; omega)) (by have := HQ.out; omega) u v)
        by_cases hc : cntP q u v = 0
        · rw [if_pos hc] at hstep
          rw [hstep]
          rw [hc] at HCN
          clear hstep hc hk
          go_enter Tryd.func9, Tryd.ntmps9
          go_wp2_with fail
          rw [← hw1, ← hgxe]
          refine (HT1.out _).mono ?_
          rintro e _ ⟨rfl, rfl⟩
          clear hw1 hgxe
          go_wp2_with fail
          refine (HT2.out _).mono ?_
          rintro e _ ⟨rfl, rfl⟩
          go_wp2_with fail
          refine HCN.out.mono ?_
          rintro e w2 ⟨rfl, hb2⟩
          have HR : Hid (StepP (q, 3) w (.returned (.tuple #[.slice p K c, .int .i64 3])) w2) := Lib.hid ⟨_, rfl, HO1.out.below hb2, HB1.out.trans (hb2.mono HB1.out.size)⟩
          clear hb2
          go_wp2
          go_ret2
          exact HR.out
        · rw [if_neg hc] at hstep
          rw [hstep]
          have hcp : ((cntP q u v : Nat) : Int) ≠ 0 := by omega
          have hcb : (((cntP q u v : Nat) : Int) == 0) = false := by rw [beq_eq_false_iff_ne]; exact hcp
          generalize cntP q u v = cn at HCN hcb
          have HDR := Lib.hid (fun w2 (hb : Below w1.heap.size w1 w2) => rdrop_any w2 ((HO1.out.below hb).list (by have := HKK.out; have := HQ.out; omega)) (by have := HQ.out; omega) u v)
          clear hstep hc hk hcp
          go_enter Tryd.func9, Tryd.ntmps9
          go_wp2_with fail
          rw [← hw1, ← hgxe]
          refine (HT1.out _).mono ?_
          rintro e _ ⟨rfl, rfl⟩
          clear hw1 hgxe
          go_wp2_with fail
          refine (HT2.out _).mono ?_
          rintro e _ ⟨rfl, rfl⟩
          go_wp2_with fail
          refine HCN.out.mono ?_
          rintro e w2 ⟨rfl, hb2⟩
          have hx2 := cell_below HX1.out hb2
          have hcl : w2.cell? ⟨gx, 1, none⟩ = some (.int .i64 u) ∧ w2.cell? ⟨gx, 2, none⟩ = some (.int .i64 v) := by simp [World.cell?, hx2]
          obtain ⟨d1, d2⟩ := hcl
          have hg2 := heap_lt hx2
          have HB2 := Lib.hid hb2
          clear hb2 hx2
          go_wp2_with fail
          refine (HDR.out _ HB2.out).mono ?_
          rintro e w3 ⟨r, rfl, ho3, hb3⟩
          have HR : Hid (StepP (dropP q u v, 0) w (.returned (.tuple #[r, .int .i64 0])) w3) := Lib.hid ⟨_, rfl, pai_zero ho3, HB1.out.trans ((HB2.out.trans (hb3.mono HB2.out.size)).mono HB1.out.size)⟩
          clear hb3 ho3
          go_wp2
          go_ret2
          exact HR.out
end Go.Proofs.YtakgepdlninnhaaDoor.Cs
namespace Go.Proofs.YtakgepdlninnhaaDoor.Cs
open Go.ChangeShapes Go.WideShapes Go.ChangeAt Go.RowKit Base F Bits Df Cl Sc Gr
theorem al_form {B : Nat} {w0 w : World} {v : Value} {vs : List Value} {ls : List (List Int)} (h : AL B w0 w v vs ls) {n : Nat} (hn : ls.length = n) : ∃ p c, v = .slice p n c := by
  subst hn
  rw [← h.len]
  rcases h.own.2 with ⟨hv, h0⟩ | ⟨g, cap, cur, hv, _⟩
  · exact ⟨none, 0, by rw [hv, h0]⟩
  · exact ⟨_, cap, hv⟩
/-- The numbers at which two lists of lists are not the same. -/
def othL (a b : List (List Int)) (n : Nat) : List Int := ((List.range n).filter fun (i : Nat) => !decide (a.getD i [] = b.getD i [])).map fun (i : Nat) => (i : Int)
theorem othL_succ (a b : List (List Int)) (i : Nat) : othL a b (i + 1) = othL a b i ++ (if a.getD i [] = b.getD i [] then [] else [(i : Int)]) := by
  unfold othL
  rw [List.range_succ, List.filter_append, List.map_append]
  congr 1
  by_cases h : a.getD i [] = b.getD i []
  · rw [if_pos h, List.filter_cons_of_neg (by simp only [decide_eq_true h]; decide)]
    rfl
  · rw [if_neg h, List.filter_cons_of_pos (by simp only [decide_eq_false h]; decide)]
    rfl
theorem othL_len (a b : List (List Int)) (n : Nat) : (othL a b n).length ≤ n := by
  unfold othL
  rw [List.length_map]
  have := List.length_filter_le (fun (i : Nat) => !decide (a.getD i [] = b.getD i [])) (List.range n)
  rwa [List.length_range] at this
set_option maxRecDepth 100000 in
set_option maxHeartbeats 8000000 in
theorem rother_any {Ba Bb n : Nat} {x y w : World} {va vb : Value} {vsa vsb : List Value} {a b : List (List Int)} (ha : AL Ba x w va vsa a) (hb : AL Bb y w vb vsb b) (hla : a.length = n) (hlb : b.length = n) (hn : n ≤ 100) (h1 : ∀ i, (a.getD i []).length ≤ 10000) (h2 : ∀ i, (b.getD i []).length ≤ 10000) :
    Calls Tryd.prog 12 #[va, vb] w (NumW w (othL a b n)) := by
  obtain ⟨pa, ca, hva⟩ := al_form ha hla
  obtain ⟨pb, cb, hvb⟩ := al_form hb hlb
  subst hva hvb
  have HGA : Hid (∀ i, i < n → ∃ g p m c, pa = some ⟨g, 0, none⟩ ∧ ∀ W, Below w.heap.size w W → g < W.heap.size ∧ W.cell? ⟨g, i, none⟩ = some (.slice p m c) ∧ Lst.Ints 0 W (.slice p m c) (a.getD i [])) := Lib.hid fun i hi => by
    obtain ⟨g, c, p, m, c', hv, hW⟩ := ha.get (i := i) (by omega) (by have := h1 i; omega)
    injection hv with e1 _ _
    exact ⟨g, p, m, c', e1, fun W hb => ⟨World.block_lt_of_cell? W _ (hW W hb).1, (hW W hb).1, (hW W hb).2⟩⟩
  have HGB : Hid (∀ i, i < n → ∃ g p m c, pb = some ⟨g, 0, none⟩ ∧ ∀ W, Below w.heap.size w W → g < W.heap.size ∧ W.cell? ⟨g, i, none⟩ = some (.slice p m c) ∧ Lst.Ints 0 W (.slice p m c) (b.getD i [])) := Lib.hid fun i hi => by
    obtain ⟨g, c, p, m, c', hv, hW⟩ := hb.get (i := i) (by omega) (by have := h2 i; omega)
    injection hv with e1 _ _
    exact ⟨g, p, m, c', e1, fun W hb => ⟨World.block_lt_of_cell? W _ (hW W hb).1, (hW W hb).1, (hW W hb).2⟩⟩
  have hni : (n : Int) ≤ 100 := by omega
  clear ha hb hla hlb h1 h2
  go_enter Tryd.func12, Tryd.ntmps12
  go_wp2_with fail
  go_loopw [5, 9] (fun s5 s9 wr => ∃ i : Nat, s9 = .int .i64 (i : Int) ∧ i ≤ n ∧ ∃ v, v = s5 ∧ Hid (Lst.OwnI w.heap.size wr v (othL a b i) ∧ Below w.heap.size w wr)) (fun _ s9 _ => n - (intOf s9).toNat)
  case atStart => exact ⟨0, rfl, Nat.zero_le _, _, rfl, Lib.hid ⟨Lst.OwnI.nil _ _, Below.refl _ _⟩⟩
  case round =>
    obtain ⟨i, rfl, hi, v5, hv5, HI⟩ := hrel
    subst hv5
    by_cases hlt : i < n
    · have hii : (i : Int) < (n : Int) := by omega
      obtain ⟨ga, p1, m1, c1, hpa, hWa⟩ := HGA.out i hlt
      obtain ⟨gb, p2, m2, c2, hpb, hWb⟩ := HGB.out i hlt
      subst hpa hpb
      have HCC : Hid (∀ X, Below wr.heap.size wr X → X.cell? ⟨ga, i, none⟩ = some (.slice p1 m1 c1) ∧ X.cell? ⟨gb, i, none⟩ = some (.slice p2 m2 c2)) := Lib.hid fun X hX => by
        have hb := HI.out.2.trans (hX.mono HI.out.2.size)
        exact ⟨(hWa X hb).2.1, (hWb X hb).2.1⟩
      have HSM := Lib.hid (fun k => Lst.sameInts_ints ((hWa (wr.drewN k) (below_drewN HI.out.2 k)).2.2) ((hWb (wr.drewN k) (below_drewN HI.out.2 k)).2.2))
      have HSU := Lib.hid (othL_succ a b i)
      have HLN : Hid ((othL a b i).length ≤ 100) := Lib.hid (by have := othL_len a b i; omega)
      generalize a.getD i [] = xs at HSM HSU
      generalize b.getD i [] = ys at HSM HSU
      clear hWa hWb
      by_cases hxy : xs = ys
      · rw [decide_eq_true hxy] at HSM
        go_upto_region 5 with fail
        refine wp_region_held_drew (S := fun X => X.cell? ⟨ga, i, none⟩ = some (.slice p1 m1 c1) ∧ X.cell? ⟨gb, i, none⟩ = some (.slice p2 m2 c2)) (by kernel_rfl) (HCC.out _ (below_drewN (Below.refl _ _) 1)) (fun hHeld0 => ?_)
        refine wpAnyH_take (i := 0) (v := ?_) rfl (by kernel_rfl) (by kernel_rfl) (by kernel_rfl) (fun _ _ _ h => h) (Or.inl ⟨by rfl, ?yco0⟩) (by assumption) ?qco0
        case yco0 => (intro wz hSw; (try dsimp only at hSw); go_simp <;> with_reducible rfl)
        try simp only [Act.put, List.getElem_toArray, List.getElem_cons_zero, List.setIfInBounds_toArray, List.set_cons_zero, List.set_cons_succ]
        refine wpAnyH_take (i := 1) (v := ?_) rfl (by kernel_rfl) (by kernel_rfl) (by kernel_rfl) (fun _ _ _ h => h) (Or.inl ⟨by rfl, ?yco1⟩) (by assumption) ?qco1
        case yco1 => (intro wz hSw; (try dsimp only at hSw); go_simp <;> with_reducible rfl)
        try simp only [Act.put, List.getElem_toArray, List.getElem_cons_zero, List.getElem_cons_succ, List.setIfInBounds_toArray, List.set_cons_zero, List.set_cons_succ]
        refine wpAnyH_take (i := 2) (v := ?_) rfl (by kernel_rfl) (by kernel_rfl) (by kernel_rfl) (fun _ _ _ h => h) (Or.inl ⟨by rfl, ?yco2⟩) (by assumption) ?qco2
        case yco2 => (intro wz hSw; (try dsimp only at hSw); go_simp <;> with_reducible rfl)
        try simp only [Act.put, List.getElem_toArray, List.getElem_cons_zero, List.getElem_cons_succ, List.setIfInBounds_toArray, List.set_cons_zero, List.set_cons_succ]
        refine wpAnyH_take (i := 3) (v := ?_) rfl (by kernel_rfl) (by kernel_rfl) (by kernel_rfl) (fun _ _ _ h => h) (Or.inl ⟨by rfl, ?yco3⟩) (by assumption) ?qco3
        case yco3 => (intro wz hSw; (try dsimp only at hSw); go_simp <;> with_reducible rfl)
        try simp only [Act.put, List.getElem_toArray, List.getElem_cons_zero, List.getElem_cons_succ, List.setIfInBounds_toArray, List.set_cons_zero, List.set_cons_succ]
        refine wpAnyH_take (i := 4) (v := ?_) rfl (by kernel_rfl) (by kernel_rfl) (by kernel_rfl) (fun _ _ _ h => h) (Or.inl ⟨by rfl, ?yco4⟩) (by assumption) ?qco4
        case yco4 => (intro wz hSw; (try dsimp only at hSw); go_simp <;> with_reducible rfl)
        try simp only [Act.put, List.getElem_toArray, List.getElem_cons_zero, List.getElem_cons_succ, List.setIfInBounds_toArray, List.set_cons_zero, List.set_cons_succ]
        refine wpAnyH_take (i := 5) (v := ?_) rfl (by kernel_rfl) (by kernel_rfl) (by kernel_rfl) (fun _ _ _ h => h) (Or.inl ⟨by rfl, ?yco5⟩) (by assumption) ?qco5
        case yco5 => (intro wz hSw; (try dsimp only at hSw); go_simp <;> with_reducible rfl)
        try simp only [Act.put, List.getElem_toArray, List.getElem_cons_zero, List.getElem_cons_succ, List.setIfInBounds_toArray, List.set_cons_zero, List.set_cons_succ]
        refine wpAnyH_take (i := 6) (v := ?_) rfl (by kernel_rfl) (by kernel_rfl) (by kernel_rfl) (fun _ _ _ h => h) (Or.inl ⟨by rfl, ?yco6⟩) (by assumption) ?qco6
        case yco6 => (intro wz hSw; (try dsimp only at hSw); go_simp <;> with_reducible rfl)
        try simp only [Act.put, List.getElem_toArray, List.getElem_cons_zero, List.getElem_cons_succ, List.setIfInBounds_toArray, List.set_cons_zero, List.set_cons_succ]
        refine wpAnyH_take (i := 7) (v := ?_) rfl (by kernel_rfl) (by kernel_rfl) (by kernel_rfl) (fun _ _ _ h => h) (Or.inl ⟨by rfl, ?yco7⟩) (by assumption) ?qco7
        case yco7 => (intro wz hSw; (try dsimp only at hSw); go_simp <;> with_reducible rfl)
        try simp only [Act.put, List.getElem_toArray, List.getElem_cons_zero, List.getElem_cons_succ, List.setIfInBounds_toArray, List.set_cons_zero, List.set_cons_succ]
        refine wpAnyH_ready (rs := [8]) (by kernel_rfl) (by simp) ?_
        refine AllReadyH.cons rfl (fun K hK => ?_) AllReadyH.nil
        go_simp
        refine (HSM.out _).mono ?_
        rintro e w5 ⟨rfl, qq, hw5⟩
        have HB5 : Hid (Below wr.heap.size wr w5) := Lib.hid (by rw [hw5]; exact below_drewN (below_drewN (Below.refl _ _) 1) qq)
        clear hw5
        refine hK.out _ _ (HCC.out _ HB5.out) (fun hHeldco8 => ?_)
        clear hK K
        try simp only [Act.put, List.getElem_toArray, List.getElem_cons_zero, List.getElem_cons_succ, List.setIfInBounds_toArray, List.set_cons_zero, List.set_cons_succ]
        refine wpAnyH_take (i := 9) (v := ?_) rfl (by kernel_rfl) (by kernel_rfl) (by kernel_rfl) (fun _ _ _ h => h) (Or.inl ⟨by rfl, ?yco9⟩) (by assumption) ?qco9
        case yco9 => (intro wz hSw; (try dsimp only at hSw); go_simp <;> with_reducible rfl)
        try simp only [Act.put, List.getElem_toArray, List.getElem_cons_zero, List.getElem_cons_succ, List.setIfInBounds_toArray, List.set_cons_zero, List.set_cons_succ]
        refine wpAnyH_done (by kernel_rfl) ?_ _
        have HN : Hid (Lst.OwnI w.heap.size w5 v5 (othL a b (i + 1)) ∧ Below w.heap.size w w5) := Lib.hid ⟨by
          rw [HSU.out, if_pos hxy, List.append_nil]
          exact HI.out.1.below HB5.out, HI.out.2.trans (HB5.out.mono HI.out.2.size)⟩
        clear hxy HI HSM
        go_wp2_with fail
        go_roundw
        case rel => exact ⟨i + 1, by go_num, by omega, _, rfl, HN⟩
        case measure => simp [intOf]; omega
      · rw [decide_eq_false hxy] at HSM
        go_upto_region 5 with fail
        refine wp_region_held_drew (S := fun X => X.cell? ⟨ga, i, none⟩ = some (.slice p1 m1 c1) ∧ X.cell? ⟨gb, i, none⟩ = some (.slice p2 m2 c2)) (by kernel_rfl) (HCC.out _ (below_drewN (Below.refl _ _) 1)) (fun hHeld0 => ?_)
        refine wpAnyH_take (i := 0) (v := ?_) rfl (by kernel_rfl) (by kernel_rfl) (by kernel_rfl) (fun _ _ _ h => h) (Or.inl ⟨by rfl, ?ycp0⟩) (by assumption) ?qcp0
        case ycp0 => (intro wz hSw; (try dsimp only at hSw); go_simp <;> with_reducible rfl)
        try simp only [Act.put, List.getElem_toArray, List.getElem_cons_zero, List.setIfInBounds_toArray, List.set_cons_zero, List.set_cons_succ]
        refine wpAnyH_take (i := 1) (v := ?_) rfl (by kernel_rfl) (by kernel_rfl) (by kernel_rfl) (fun _ _ _ h => h) (Or.inl ⟨by rfl, ?ycp1⟩) (by assumption) ?qcp1
        case ycp1 => (intro wz hSw; (try dsimp only at hSw); go_simp <;> with_reducible rfl)
        try simp only [Act.put, List.getElem_toArray, List.getElem_cons_zero, List.getElem_cons_succ, List.setIfInBounds_toArray, List.set_cons_zero, List.set_cons_succ]
        refine wpAnyH_take (i := 2) (v := ?_) rfl (by kernel_rfl) (by kernel_rfl) (by kernel_rfl) (fun _ _ _ h => h) (Or.inl ⟨by rfl, ?ycp2⟩) (by assumption) ?qcp2
        case ycp2 => (intro wz hSw; (try dsimp only at hSw); go_simp <;> with_reducible rfl)
        try simp only [Act.put, List.getElem_toArray, List.getElem_cons_zero, List.getElem_cons_succ, List.setIfInBounds_toArray, List.set_cons_zero, List.set_cons_succ]
        refine wpAnyH_take (i := 3) (v := ?_) rfl (by kernel_rfl) (by kernel_rfl) (by kernel_rfl) (fun _ _ _ h => h) (Or.inl ⟨by rfl, ?ycp3⟩) (by assumption) ?qcp3
        case ycp3 => (intro wz hSw; (try dsimp only at hSw); go_simp <;> with_reducible rfl)
        try simp only [Act.put, List.getElem_toArray, List.getElem_cons_zero, List.getElem_cons_succ, List.setIfInBounds_toArray, List.set_cons_zero, List.set_cons_succ]
        refine wpAnyH_take (i := 4) (v := ?_) rfl (by kernel_rfl) (by kernel_rfl) (by kernel_rfl) (fun _ _ _ h => h) (Or.inl ⟨by rfl, ?ycp4⟩) (by assumption) ?qcp4
        case ycp4 => (intro wz hSw; (try dsimp only at hSw); go_simp <;> with_reducible rfl)
        try simp only [Act.put, List.getElem_toArray, List.getElem_cons_zero, List.getElem_cons_succ, List.setIfInBounds_toArray, List.set_cons_zero, List.set_cons_succ]
        refine wpAnyH_take (i := 5) (v := ?_) rfl (by kernel_rfl) (by kernel_rfl) (by kernel_rfl) (fun _ _ _ h => h) (Or.inl ⟨by rfl, ?ycp5⟩) (by assumption) ?qcp5
        case ycp5 => (intro wz hSw; (try dsimp only at hSw); go_simp <;> with_reducible rfl)
        try simp only [Act.put, List.getElem_toArray, List.getElem_cons_zero, List.getElem_cons_succ, List.setIfInBounds_toArray, List.set_cons_zero, List.set_cons_succ]
        refine wpAnyH_take (i := 6) (v := ?_) rfl (by kernel_rfl) (by kernel_rfl) (by kernel_rfl) (fun _ _ _ h => h) (Or.inl ⟨by rfl, ?ycp6⟩) (by assumption) ?qcp6
        case ycp6 => (intro wz hSw; (try dsimp only at hSw); go_simp <;> with_reducible rfl)
        try simp only [Act.put, List.getElem_toArray, List.getElem_cons_zero, List.getElem_cons_succ, List.setIfInBounds_toArray, List.set_cons_zero, List.set_cons_succ]
        refine wpAnyH_take (i := 7) (v := ?_) rfl (by kernel_rfl) (by kernel_rfl) (by kernel_rfl) (fun _ _ _ h => h) (Or.inl ⟨by rfl, ?ycp7⟩) (by assumption) ?qcp7
        case ycp7 => (intro wz hSw; (try dsimp only at hSw); go_simp <;> with_reducible rfl)
        try simp only [Act.put, List.getElem_toArray, List.getElem_cons_zero, List.getElem_cons_succ, List.setIfInBounds_toArray, List.set_cons_zero, List.set_cons_succ]
        refine wpAnyH_ready (rs := [8]) (by kernel_rfl) (by simp) ?_
        refine AllReadyH.cons rfl (fun K hK => ?_) AllReadyH.nil
        go_simp
        refine (HSM.out _).mono ?_
        rintro e w5 ⟨rfl, qq, hw5⟩
        have HB5 : Hid (Below wr.heap.size wr w5) := Lib.hid (by rw [hw5]; exact below_drewN (below_drewN (Below.refl _ _) 1) qq)
        clear hw5
        refine hK.out _ _ (HCC.out _ HB5.out) (fun hHeldcp8 => ?_)
        clear hK K
        try simp only [Act.put, List.getElem_toArray, List.getElem_cons_zero, List.getElem_cons_succ, List.setIfInBounds_toArray, List.set_cons_zero, List.set_cons_succ]
        refine wpAnyH_take (i := 9) (v := ?_) rfl (by kernel_rfl) (by kernel_rfl) (by kernel_rfl) (fun _ _ _ h => h) (Or.inl ⟨by rfl, ?ycp9⟩) (by assumption) ?qcp9
        case ycp9 => (intro wz hSw; (try dsimp only at hSw); go_simp <;> with_reducible rfl)
        try simp only [Act.put, List.getElem_toArray, List.getElem_cons_zero, List.getElem_cons_succ, List.setIfInBounds_toArray, List.set_cons_zero, List.set_cons_succ]
        refine wpAnyH_done (by kernel_rfl) ?_ _
        have HE : Hid (othL a b (i + 1) = othL a b i ++ [(i : Int)]) := Lib.hid (by rw [HSU.out, if_neg hxy])
        have HO5 : Hid (Lst.OwnI w.heap.size w5 v5 (othL a b i) ∧ Below w.heap.size w w5) := Lib.hid ⟨HI.out.1.below HB5.out, HI.out.2.trans (HB5.out.mono HI.out.2.size)⟩
        clear hxy HI HSM
        go_wp2_with (at_builtin; refine Lst.append_ints rfl (.tmp 22) (.tmp 24) rfl (B := w.heap.size) (zs := othL a b i) (ys := [(i : Int)]) (Nat.le_trans HO5.out.2.size (by simp)) (HO5.out.1.lay rfl _) rfl (Lst.int_lit (i : Int) _) (fun n c e => by cases e) rfl (by have := HLN.out; simp only [List.length_cons, List.length_nil]; omega) ?_; intro v2 w6 ho hg2 hat)
        have HN : Hid (Lst.OwnI w.heap.size w6 v2 (othL a b (i + 1)) ∧ Below w.heap.size w w6) := Lib.hid ⟨by rw [HE.out]; exact ho, by
          have hb : Below w5.heap.size w5 (w5.alloc (.cells #[.int .i64 (i : Int)] 3)) := (Below.refl _ _).alloc (Nat.le_refl _) _
          exact (HO5.out.2.trans (hb.mono HO5.out.2.size)).grown hg2 (Nat.le_trans HO5.out.2.size hb.size) (fun q hq => Lst.own_base HO5.out.1 q hq)⟩
        clear ho hg2 hat HO5
        go_wp2_with fail
        go_roundw
        case rel => exact ⟨i + 1, by go_num, by omega, _, rfl, HN⟩
        case measure => simp [intOf]; omega
    · have e : i = n := by omega
      subst e
      have HF : Hid (NumW w (othL a b i) (.returned v5) wr) := Lib.hid ⟨v5, rfl, .of_own HI.out.1, HI.out.2⟩
      have hii : ¬ (i : Int) < (i : Int) := by omega
      clear HI hlt hi
      go_wp2
      go_ret
      exact HF.out
end Go.Proofs.YtakgepdlninnhaaDoor.Cs
namespace Go.Proofs.YtakgepdlninnhaaDoor.Cs
open Go.ChangeShapes Go.WideShapes Go.ChangeAt Go.RowKit Base F Bits Df Cl Sc Gr
variable {B C D b n M : Nat} {q : List Pai} {ls : List Int} {W W' w w' : World}
/-- Rows of the call's own. -/
def RK (W : World) (v : Value) (ls : List (List Int)) : Prop := ∃ vs, AL 0 W W v vs ls
theorem RK.of {B : Nat} {w0 W : World} {v : Value} {vs : List Value} {ls : List (List Int)} (h : AL B w0 W v vs ls) : RK W v ls := ⟨vs, own_row_down h.own (Nat.zero_le _), Below.refl _ _, Nat.zero_le _, h.len, fun i hi => own_down' (h.each i hi) (Nat.zero_le _)⟩
theorem RK.below {v : Value} {ls : List (List Int)} (h : RK W v ls) (hb : Below W.heap.size W W') : RK W' v ls := by
  obtain ⟨vs, h⟩ := h
  exact .of (h.below_ hb)
theorem own_kf {B' : Nat} {e : TypeId} {size n : Nat} {v : Value} {xs : List Value} (h : W.ownsRow B' e size v n xs) (hk : KF B C W W') (h1 : e ≠ 86) (h2 : e ≠ 56) : W'.ownsRow B' e size v n xs := by
  refine ⟨h.1, ?_⟩
  rcases h.2 with hn | ⟨g, cap, cur, hv, hB, hg, rest⟩
  · exact .inl hn
  · exact .inr ⟨g, cap, cur, hv, hB, hk.keep hg h1 h2, rest⟩
theorem RK.kf {v : Value} {ls : List (List Int)} (h : RK W v ls) (hk : KF B C W W') : RK W' v ls := by
  obtain ⟨vs, h⟩ := h
  exact ⟨vs, own_kf h.own hk (by decide) (by decide), Below.refl _ _, Nat.zero_le _, h.len, fun i hi => own_kf (h.each i hi) hk (by decide) (by decide)⟩
theorem RK.form {v : Value} {ls : List (List Int)} (h : RK W v ls) {k : Nat} (hk : ls.length = k) : ∃ p c, v = .slice p k c := by
  obtain ⟨vs, h⟩ := h
  exact al_form h hk
theorem rowsD_len (q : List Pai) (n : Nat) : (rowsD q n).length = n := by simp [rowsD]
theorem rowsD_get (q : List Pai) {n i : Nat} (h : i < n) : (rowsD q n).getD i [] = rowD q (i : Int) := by simp [rowsD, List.getD_eq_getElem?_getD, h]
theorem rowsD_le {q : List Pai} (hr : Rng n q) (hn : n ≤ 100) (i : Nat) : ((rowsD q n).getD i []).length ≤ 10000 := by
  by_cases h : i < n
  · rw [rowsD_get q h]
    have := rowD_len hr i
    omega
  · rw [List.getD_eq_getElem?_getD, List.getElem?_eq_none (by rw [rowsD_len]; omega)]
    simp
theorem othL_eq (q q' : List Pai) (n : Nat) : othL (rowsD q n) (rowsD q' n) n = othD n q q' := by
  unfold othL othD
  congr 1
  refine List.filter_congr fun i hi => ?_
  have hi := List.mem_range.1 hi
  rw [rowsD_get q hi, rowsD_get q' hi]
theorem stepQ_len (m : Nat) (q : List Pai) (d : Dd24) : (stepQ m q d).1.length ≤ q.length + 1 := by
  unfold stepQ
  split
  · split
    · simp
    · split
      · simp
      · have := dropP_len q d.u d.v
        simp; omega
  · simp
/-- What a deed leaves of the last changes. -/
def lastQ (n : Nat) (q : List Pai) (ls : List Int) (d : Dd24) : List Int := if (stepQ n q d).2 = 0 then othD n q (stepQ n q d).1 else ls
def DeedP (B C D b n : Nat) (q : List Pai) (ls : List Int) (M : Nat) (d : Dd24) (W : World) (e : Ending) (W' : World) : Prop := e = .returned (.int .i64 (stepQ n q d).2) ∧ QS B C D b n (stepQ n q d).1 (lastQ n q ls d) (M + 1) W' ∧ KF B C W W'
theorem isN_iff {n : Nat} {u : Int} : isN n u = true ↔ (0 ≤ u ∧ u < (n : Int)) := decide_eq_true_iff
theorem deed_no (h : QS B C D b n q ls M W) {d : Dd24} (hr : ¬ (isN n d.u = true ∧ isN n d.v = true)) {e : Ending} (hp : HeldP (.int .i64 1) W e W') : DeedP B C D b n q ls M d W e W' := by
  have e1 : stepQ n q d = (q, 1) := by unfold stepQ; rw [if_neg hr]
  unfold DeedP lastQ
  rw [e1]
  exact ⟨hp.1, (h.below hp.2).less (by omega) (Nat.le_refl _), .of_below hp.2⟩
theorem deed_add (h : QS B C D b n q ls M W) (hD : D ≤ W.heap.size) (hT : TabW W) (hTB : 0 < B) (hM : M ≤ 1000) (hq : q.length ≤ 1000) {d : Dd24} (hk : d.kind = 0) :
    Calls Tryd.prog 10 #[.pointer (some ⟨b, 0, none⟩), .int .i64 d.u, .int .i64 d.v] W (DeedP B C D b n q ls M d W) := by
  by_cases hr : isN n d.u = true ∧ isN n d.v = true
  · have e1 : stepQ n q d = (q ++ [⟨d.u, d.v⟩], 0) := by unfold stepQ; rw [if_pos hr, if_pos hk]
    refine (add_q h hD hT hTB hM hq (isN_iff.1 hr.1) (isN_iff.1 hr.2)).mono ?_
    rintro e W' ⟨he, h1, h2⟩
    unfold DeedP lastQ
    rw [e1]
    exact ⟨he, by rw [if_pos rfl]; exact h1, h2⟩
  · exact (add_bad h.v d.u d.v (fun e => hr ⟨isN_iff.2 e.1, isN_iff.2 e.2⟩)).mono fun e W' hp => deed_no h hr hp
theorem deed_drop (h : QS B C D b n q ls M W) (hD : D ≤ W.heap.size) (hT : TabW W) (hTB : 0 < B) (hM : M ≤ 1000) (hq : q.length ≤ 1000) {d : Dd24} (hk : d.kind ≠ 0) :
    Calls Tryd.prog 11 #[.pointer (some ⟨b, 0, none⟩), .int .i64 d.u, .int .i64 d.v] W (DeedP B C D b n q ls M d W) := by
  by_cases hr : isN n d.u = true ∧ isN n d.v = true
  · by_cases hc : cntP q d.u d.v = 0
    · have e1 : stepQ n q d = (q, 3) := by unfold stepQ; rw [if_pos hr, if_neg hk, if_pos hc]
      refine (dropNone_q h (isN_iff.1 hr.1) (isN_iff.1 hr.2) (fun e => by have := cntP_pos.2 e; omega)).mono ?_
      rintro e W' ⟨he, hb⟩
      unfold DeedP lastQ
      rw [e1]
      exact ⟨he, (h.below hb).less (by omega) (Nat.le_refl _), .of_below hb⟩
    · have e1 : stepQ n q d = (dropP q d.u d.v, 0) := by unfold stepQ; rw [if_pos hr, if_neg hk, if_neg hc]
      refine (drop_q h hD hT hTB hM hq (isN_iff.1 hr.1) (isN_iff.1 hr.2) (cntP_pos.1 (by omega))).mono ?_
      rintro e W' ⟨he, h1, h2⟩
      unfold DeedP lastQ
      rw [e1]
      exact ⟨he, by rw [if_pos rfl]; exact h1, h2⟩
  · exact (drop_bad h.v d.u d.v (fun e => hr ⟨isN_iff.2 e.1, isN_iff.2 e.2⟩)).mono fun e W' hp => deed_no h hr hp
theorem stepQ_why (m : Nat) (q : List Pai) (d : Dd24) : (stepQ m q d).2 = 0 ∨ (stepQ m q d).2 = 1 ∧ (stepQ m q d).1 = q ∨ (stepQ m q d).2 = 3 ∧ (stepQ m q d).1 = q := by
  unfold stepQ
  split
  · split
    · exact .inl rfl
    · split
      · exact .inr (.inr ⟨rfl, rfl⟩)
      · exact .inl rfl
  · exact .inr (.inl ⟨rfl, rfl⟩)
/-- Where ClosurePlays stands: the closure, the document's arcs, rows, and the last changes. -/
structure PI (w0 : World) (C b m : Nat) (q : List Pai) (ls : List Int) (M : Nat) (v7 v8 v9 : Value) (w : World) : Prop where
  qs : QS w0.heap.size C C b m q ls M w
  bel : Below w0.heap.size w0 w
  C_ : C ≤ w.heap.size
  arcs : OwnPai 0 w v7 q
  rows : RK w v8 (rowsD q m)
  last : IK w v9 ls
  len : q.length ≤ M
section
variable {w0 : World} {m : Nat} {v7 v8 v9 : Value} {d : Dd24}
theorem PI.below (h : PI w0 C b m q ls M v7 v8 v9 w) (hb : Below w.heap.size w w') : PI w0 C b m q ls M v7 v8 v9 w' := ⟨h.qs.below hb, h.bel.trans (hb.mono h.bel.size), Nat.le_trans h.C_ hb.size, OwnPai.below h.arcs hb, h.rows.below hb, h.last.below hb, h.len⟩
theorem PI.tab (h : PI w0 C b m q ls M v7 v8 v9 w) (hT : TabW w0) : TabW w := hT.below h.bel
/-- Between the document's step and the rows anew. -/
structure PX (w0 : World) (C b m : Nat) (q : List Pai) (ls : List Int) (M : Nat) (d : Dd24) (v7 v8 v9 : Value) (w : World) : Prop where
  qs : QS w0.heap.size C C b m (stepQ m q d).1 (lastQ m q ls d) (M + 1) w
  bel : Below w0.heap.size w0 w
  C_ : C ≤ w.heap.size
  arcs : OwnPai 0 w v7 (stepQ m q d).1
  rows : RK w v8 (rowsD q m)
  last : IK w v9 ls
  len : (stepQ m q d).1.length ≤ M + 1
theorem PI.deed (h : PI w0 C b m q ls M v7 v8 v9 w) {u7 : Value} (hu : OwnPai 0 w u7 (stepQ m q d).1) {e : Ending} (hp : DeedP w0.heap.size C C b m q ls M d w e w') : e = .returned (.int .i64 (stepQ m q d).2) ∧ PX w0 C b m q ls M d u7 v8 v9 w' :=
  ⟨hp.1, hp.2.1, h.bel.trans (hp.2.2.old h.bel.size), Nat.le_trans h.C_ hp.2.2.size, pai_kf hu hp.2.2, h.rows.kf hp.2.2, h.last.kf hp.2.2, by have := stepQ_len m q d; have := h.len; omega⟩
theorem PX.same (h : PX w0 C b m q ls M d v7 v8 v9 w) (hs : (stepQ m q d).2 ≠ 0) : PI w0 C b m (stepQ m q d).1 (lastQ m q ls d) (M + 1) v7 v8 v9 w := by
  have e : (stepQ m q d).1 = q := by
    rcases stepQ_why m q d with h1 | h1 | h1
    · exact absurd h1 hs
    · exact h1.2
    · exact h1.2
  have e2 : lastQ m q ls d = ls := by unfold lastQ; rw [if_neg hs]
  refine ⟨h.qs, h.bel, h.C_, h.arcs, by rw [e]; exact h.rows, by rw [e2]; exact h.last, h.len⟩
theorem PX.below (h : PX w0 C b m q ls M d v7 v8 v9 w) (hb : Below w.heap.size w w') : PX w0 C b m q ls M d v7 v8 v9 w' := ⟨h.qs.below hb, h.bel.trans (hb.mono h.bel.size), Nat.le_trans h.C_ hb.size, OwnPai.below h.arcs hb, h.rows.below hb, h.last.below hb, h.len⟩
theorem PX.anew (h : PX w0 C b m q ls M d v7 v8 v9 w) (hs : (stepQ m q d).2 = 0) {u8 u9 : Value} (h8 : RK w u8 (rowsD (stepQ m q d).1 m)) (h9 : IK w u9 (othD m q (stepQ m q d).1)) : PI w0 C b m (stepQ m q d).1 (lastQ m q ls d) (M + 1) v7 u8 u9 w := by
  have e2 : lastQ m q ls d = othD m q (stepQ m q d).1 := by unfold lastQ; rw [if_pos hs]
  exact ⟨h.qs, h.bel, h.C_, h.arcs, h8, by rw [e2]; exact h9, h.len⟩
end
theorem room_c (n : Int) (w : World) : Calls Tryd.prog 7 #[.int .i64 n] w fun e w' => e = .returned (.int .i64 (roomC n : Nat)) ∧ w = w' := by
  have hc : (n < 0 ∧ roomC n = 0) ∨ (0 ≤ n ∧ n ≤ 4096 ∧ n = ((roomC n : Nat) : Int)) ∨ (4096 < n ∧ roomC n = 4096) := by unfold roomC; omega
  generalize roomC n = r at hc ⊢
  rcases hc with ⟨h1, rfl⟩ | ⟨h1, h2, rfl⟩ | ⟨h1, rfl⟩
  · go_enter Tryd.func7, Tryd.ntmps7
    go_wp2
    go_ret
    exact ⟨rfl, rfl⟩
  · go_enter Tryd.func7, Tryd.ntmps7
    go_wp2
    go_ret
    exact ⟨rfl, rfl⟩
  · have h2 : 0 ≤ n := by omega
    go_enter Tryd.func7, Tryd.ntmps7
    go_wp2
    go_ret
    exact ⟨rfl, rfl⟩
theorem reach_le60 (l : List Arc) (s : Int) (hl : l.length ≤ 60) : (reachR l s).length ≤ 10000 := by
  have := outR_len l s (l.length + 1) 0 hl (by omega)
  have h2 : reachR l s = outR l s (l.length + 1) 0 := rfl
  rw [h2]
  omega
theorem rows_any_le {q : List Pai} (hq : q.length ≤ 60) (n i : Nat) : ((rowsD q n).getD i []).length ≤ 10000 := by
  by_cases h : i < n
  · rw [rowsD_get q h]
    exact reach_le60 _ _ (Nat.le_trans (arcsP_len q) hq)
  · rw [List.getD_eq_getElem?_getD, List.getElem?_eq_none (by rw [rowsD_len]; omega)]
    simp
theorem rother_rk {n : Nat} {w : World} {va vb : Value} {a b : List (List Int)} (ha : RK w va a) (hb : RK w vb b) (hla : a.length = n) (hlb : b.length = n) (hn : n ≤ 100) (h1 : ∀ i, (a.getD i []).length ≤ 10000) (h2 : ∀ i, (b.getD i []).length ≤ 10000) : Calls Tryd.prog 12 #[va, vb] w (NumW w (othL a b n)) := by
  obtain ⟨vs, ha⟩ := ha
  obtain ⟨us, hb⟩ := hb
  exact rother_any ha hb hla hlb hn h1 h2
end Go.Proofs.YtakgepdlninnhaaDoor.Cs
namespace Go.Proofs.YtakgepdlninnhaaDoor.Cs
open Go.ChangeShapes Go.WideShapes Go.ChangeAt Go.RowKit Base F Bits Df Cl Sc Gr
/-- A deed in its box. -/
def BoxD (gb : Nat) (d0 d1 d2 : Int) (W : World) : Prop := W.heap[gb]? = some (.cells #[.int .i64 d0, .int .i64 d1, .int .i64 d2] 32)
theorem BoxD.below {gb : Nat} {d0 d1 d2 : Int} {W W' : World} (h : BoxD gb d0 d1 d2 W) (hb : Below W.heap.size W W') : BoxD gb d0 d1 d2 W' := cell_below h hb
theorem BoxD.kf {gb B C : Nat} {d0 d1 d2 : Int} {W W' : World} (h : BoxD gb d0 d1 d2 W) (hk : KF B C W W') : BoxD gb d0 d1 d2 W' := hk.keep h (by decide) (by decide)
theorem BoxD.cells {gb : Nat} {d0 d1 d2 : Int} {W : World} (h : BoxD gb d0 d1 d2 W) : W.cell? ⟨gb, 0, none⟩ = some (.int .i64 d0) ∧ W.cell? ⟨gb, 1, none⟩ = some (.int .i64 d1) ∧ W.cell? ⟨gb, 2, none⟩ = some (.int .i64 d2) := by
  unfold BoxD at h
  simp [World.cell?, h]
theorem ik_len {W : World} {v : Value} {zs : List Int} (h : IK W v zs) : zs.length ≤ 9223372036854775807 := by
  rcases h with ⟨_, rfl⟩ | h
  · simp
  · rcases h.2 with ⟨_, h0⟩ | ⟨g, cap, cur, _, _, _, h1, h2, _⟩
    · omega
    · simp only [maxLen] at h2
      omega
theorem rk_get {W : World} {v : Value} {ls : List (List Int)} (h : RK W v ls) {i : Nat} (hi : i < ls.length) (hl : (ls.getD i []).length ≤ 100000) : ∃ g c p n c', v = .slice (some ⟨g, 0, none⟩) ls.length c ∧ g < W.heap.size ∧ ∀ X, Below W.heap.size W X → X.cell? ⟨g, i, none⟩ = some (.slice p n c') ∧ Lst.Ints 0 X (.slice p n c') (ls.getD i []) := by
  obtain ⟨vs, h⟩ := h
  obtain ⟨g, c, p, n, c', h1, h2⟩ := h.get hi hl
  exact ⟨g, c, p, n, c', h1, World.block_lt_of_cell? W _ (h2 W (Below.refl _ _)).1, h2⟩
theorem joinX {α : Type} {P : Prop} (J : α → Prop) (G : α → Prop) (h1 : (∀ x, J x → G x) → P) (h2 : ∀ x, J x → G x) : P := h1 h2
set_option maxHeartbeats 16000000 in
set_option maxRecDepth 100000 in
theorem plays_any {lv : Value} {l : List Dd24} (nn : Int) (w : World) (hT : TabW w) (hl : Dd24s 0 w lv l) : Calls Tryd.prog 3 #[.int .i64 nn, lv] w (TruP w) := by
  have HT1 := Lib.hid hT
  have HNEW := Lib.hid (new_q nn w)
  obtain ⟨pl, cl, rfl, hl9, hlc⟩ := hl.open_
  have HLC := Lib.hid hlc
  obtain ⟨L, hL⟩ : ∃ L, L = l.length := ⟨_, rfl⟩
  have HLL := Lib.hid hL
  rw [← hL] at HLC hl9 ⊢
  obtain ⟨w1, hw1⟩ : ∃ X, X = w := ⟨_, rfl⟩
  subst hw1
  clear hl hlc hL hT
  go_enter Tryd.func3, Tryd.ntmps3
  go_wp2_with fail
  refine HNEW.out.mono ?_
  rintro e w2 ⟨b, rfl, hq, hb2⟩
  obtain ⟨C, hC⟩ : ∃ C, C = w2.heap.size := ⟨_, rfl⟩
  rw [← hC] at hq
  have HQ := Lib.hid (And.intro (hq C) (And.intro hb2 (Nat.le_of_eq hC)))
  have HLIV := Lib.hid (lives_cs w2 (HT1.out.below hb2))
  clear hq hb2 hC HNEW
  by_cases c1 : 10 < nn
  · go_wp2_with fail
    refine HLIV.out.mono ?_
    rintro e w3 ⟨rfl, hb3⟩
    have HB : Hid (Below w1.heap.size w1 w3) := Lib.hid (HQ.out.2.1.trans (hb3.mono HQ.out.2.1.size))
    clear hb3
    go_wp2
    go_ret
    exact ⟨rfl, HB.out⟩
  by_cases c2 : 40 < L
  · have c2i : (40 : Int) < (L : Int) := by omega
    go_wp2_with fail
    refine HLIV.out.mono ?_
    rintro e w3 ⟨rfl, hb3⟩
    have HB : Hid (Below w1.heap.size w1 w3) := Lib.hid (HQ.out.2.1.trans (hb3.mono HQ.out.2.1.size))
    clear hb3
    go_wp2
    go_ret
    exact ⟨rfl, HB.out⟩
  have c2i : ¬ (40 : Int) < (L : Int) := by omega
  obtain ⟨m, hm⟩ : ∃ m, m = roomC nn := ⟨_, rfl⟩
  have hm10 : m ≤ 10 := by rw [hm]; unfold roomC; omega
  have HRM := Lib.hid (room_c nn w2)
  rw [← hm] at HRM
  rw [← hm] at HQ
  have HRW := Lib.hid (rrows_any (pv := .slice none 0 0) (l := []) m w2 Pais.nil (by simp) (by omega))
  clear hm HLIV
  have hmi : (m : Int) ≤ 10 := by omega
  go_wp2_with fail
  refine HRM.out.mono ?_
  rintro e _ ⟨rfl, rfl⟩
  clear HRM
  go_wp2_with fail
  refine HRW.out.mono ?_
  rintro e w3 ⟨v8, vs8, rfl, hal⟩
  obtain ⟨p8, c8, hv8⟩ := al_form hal (rowsD_len [] m)
  have hb3 : Below w2.heap.size w2 w3 := hal.below
  have HI0 : Hid (PI w1 C b m [] [] 0 (.slice none 0 0) v8 (.slice none 0 0) w3) := Lib.hid ⟨HQ.out.1.below hb3, HQ.out.2.1.trans (hb3.mono HQ.out.2.1.size), Nat.le_trans HQ.out.2.2 hb3.size, OwnPai.nil _ _, .of hal, .inl ⟨⟨_, _, rfl⟩, rfl⟩, Nat.le_refl _⟩
  subst hv8
  clear hal hb3 HRW HQ
  have HLD : Hid (∀ i, i < L → ∃ g o, pl = some ⟨g, o, none⟩ ∧ ∀ X, Below w1.heap.size w1 X → g < X.heap.size ∧ X.cell? ⟨g, o + i * 3, none⟩ = some (.int .i64 (l.getD i Dd24.zero).kind) ∧ X.cell? ⟨g, o + i * 3 + 1, none⟩ = some (.int .i64 (l.getD i Dd24.zero).u) ∧ X.cell? ⟨g, o + i * 3 + 2, none⟩ = some (.int .i64 (l.getD i Dd24.zero).v)) := Lib.hid fun i hi => by
    obtain ⟨g, o, h1, _, h2, h3, h4, h5⟩ := HLC.out i hi
    exact ⟨g, o, h1, fun X hX => ⟨Nat.lt_of_lt_of_le h2 hX.size, (hX.cell (p := ⟨g, _, none⟩) h2).trans h3, (hX.cell (p := ⟨g, _, none⟩) h2).trans h4, (hX.cell (p := ⟨g, _, none⟩) h2).trans h5⟩⟩
  go_wp2_with fail
  go_loopw [7, 8, 9, 43] (fun s7 s8 s9 s43 wr => ∃ i : Nat, s43 = .int .i64 (i : Int) ∧ i ≤ L ∧ ∃ v7 v8 v9, v7 = s7 ∧ v8 = s8 ∧ v9 = s9 ∧ Hid (∃ q ls, PI w1 C b m q ls i v7 v8 v9 wr)) (fun _ _ _ s43 _ => L - (intOf s43).toNat)
  case atStart => exact ⟨0, rfl, Nat.zero_le _, _, _, _, rfl, rfl, rfl, Lib.hid ⟨[], [], HI0.out⟩⟩
  case round =>
    clear HI0
    obtain ⟨M, rfl, hM, v7, v8, v9, hv7, hv8, hv9, HI⟩ := hrel
    subst hv7 hv8 hv9
    obtain ⟨q, ls, hpi⟩ := HI.out
    have HPI := Lib.hid hpi
    clear HI hpi
    by_cases hlt : M < L
    · have hMi : (M : Int) < (L : Int) := by omega
      obtain ⟨gl, ol, hpl, hcl⟩ := HLD.out M hlt
      subst hpl
      obtain ⟨hgl, a0, a1, a2⟩ := hcl wr HPI.out.bel
      obtain ⟨d, hd⟩ : ∃ d, d = l.getD M Dd24.zero := ⟨_, rfl⟩
      rw [← hd] at a0 a1 a2
      obtain ⟨d0, d1, d2⟩ := d
      dsimp only at a0 a1 a2
      clear hcl hd
      obtain ⟨gb, hgb⟩ : ∃ g, g = wr.heap.size := ⟨_, rfl⟩
      obtain ⟨W, hW⟩ : ∃ X, X = wr.alloc (.cells #[.int .i64 d0, .int .i64 d1, .int .i64 d2] 32) := ⟨_, rfl⟩
      have hbW : Below wr.heap.size wr W := by rw [hW]; exact (Below.refl _ _).alloc (Nat.le_refl _) _
      have HBX : Hid (BoxD gb d0 d1 d2 W) := Lib.hid (by rw [hW, hgb]; exact heap_alloc_at _ _ _ rfl)
      have HPW := Lib.hid (HPI.out.below hbW)
      have HQL : Hid (q.length ≤ 50) := Lib.hid (by have := HPW.out.len; omega)
      have HST := Lib.hid (step_any m q ⟨d0, d1, d2⟩ W HPW.out.arcs (by have := HPW.out.len; omega))
      obtain ⟨q2, hq2⟩ : ∃ q2, q2 = (stepQ m q ⟨d0, d1, d2⟩).1 := ⟨_, rfl⟩
      obtain ⟨yw, hyw⟩ : ∃ yw, yw = (stepQ m q ⟨d0, d1, d2⟩).2 := ⟨_, rfl⟩
      obtain ⟨ls2, hls2⟩ : ∃ l2, l2 = lastQ m q ls ⟨d0, d1, d2⟩ := ⟨_, rfl⟩
      have HQ2 := Lib.hid hq2
      have HYW := Lib.hid hyw
      have HLS := Lib.hid hls2
      unfold StepP at HST
      rw [← hyw] at HST
      clear hq2 hyw hls2
      obtain ⟨e0, e1, e2⟩ := HBX.out.cells
      have hgbl := heap_lt HBX.out
      clear hbW HPI
      go_upto_region 11 with fail
      rw [← hW, ← hgb]
      clear hW hgb a0 a1 a2 hgl
      go_wp2_with fail
      refine HST.out.mono ?_
      rintro e w5 ⟨v7b, rfl, ho5, hb5⟩
      have HP5 := Lib.hid (HPW.out.below hb5)
      have HO5 := Lib.hid ho5
      replace HBX : Hid (BoxD gb d0 d1 d2 w5) := Lib.hid (HBX.out.below hb5)
      clear hb5 ho5 HPW HST e0 e1 e2 hgbl
      obtain ⟨e0, e1, e2⟩ := HBX.out.cells
      have hgbl := heap_lt HBX.out
      have HTW := Lib.hid (HP5.out.tab HT1.out)
      go_upto_if 57 with fail
      go_cut [14] (fun s14 wx => s14 = .int .i64 yw ∧ Hid (PX w1 C b m q ls M ⟨d0, d1, d2⟩ v7b v8 v9 wx ∧ BoxD gb d0 d1 d2 wx))
      case first =>
        by_cases hk : d0 = 0
        · have hkb : (d0 == 0) = true := by rw [hk]; rfl
          have HDE := Lib.hid (deed_add (d := ⟨d0, d1, d2⟩) HP5.out.qs HP5.out.C_ HTW.out HT1.out.2 (by omega) (by have := HP5.out.len; omega) hk)
          clear hk
          go_wp2_with fail
          refine HDE.out.mono ?_
          intro e w6 hp6
          have HK6 := Lib.hid (HBX.out.kf hp6.2.2)
          obtain ⟨he, hx⟩ := HP5.out.deed HO5.out hp6
          rw [← HYW.out] at he
          subst he
          have HX6 := Lib.hid hx
          clear hp6 hx HDE
          go_wp2_with fail
          go_meet
          case rel => exact ⟨rfl, Lib.hid ⟨HX6.out, HK6.out⟩⟩
        · have hkb : (d0 == 0) = false := by rw [beq_eq_false_iff_ne]; exact hk
          have HDE := Lib.hid (deed_drop (d := ⟨d0, d1, d2⟩) HP5.out.qs HP5.out.C_ HTW.out HT1.out.2 (by omega) (by have := HP5.out.len; omega) hk)
          clear hk
          go_wp2_with fail
          refine HDE.out.mono ?_
          intro e w6 hp6
          have HK6 := Lib.hid (HBX.out.kf hp6.2.2)
          obtain ⟨he, hx⟩ := HP5.out.deed HO5.out hp6
          rw [← HYW.out] at he
          subst he
          have HX6 := Lib.hid hx
          clear hp6 hx HDE
          go_wp2_with fail
          go_meet
          case rel => exact ⟨rfl, Lib.hid ⟨HX6.out, HK6.out⟩⟩
      case rest =>
        obtain ⟨hs14, HX⟩ := hcut
        subst hs14
        clear HP5 HO5 HTW HBX e0 e1 e2 hgbl
        go_upto_if 71 with fail
        go_cut [8, 9] (fun s8 s9 wx => ∃ v8b v9b, v8b = s8 ∧ v9b = s9 ∧ Hid (PI w1 C b m q2 ls2 (M + 1) v7b v8b v9b wx ∧ BoxD gb d0 d1 d2 wx))
        case first =>
          by_cases hy0 : yw = 0
          · have hyb : (yw == 0) = true := by rw [hy0]; rfl
            have hz : (stepQ m q ⟨d0, d1, d2⟩).2 = 0 := by rw [← HYW.out]; exact hy0
            have HZ := Lib.hid hz
            have HRW := Lib.hid (rrows_any m _ (HX.out.1.arcs.list (by have := HX.out.1.len; omega)) (by have := HX.out.1.len; omega) (by omega))
            clear hy0 hz
            go_wp2_with fail
            refine HRW.out.mono ?_
            rintro e w6 ⟨v6, vs6, rfl, hal⟩
            have HX6 := Lib.hid (HX.out.1.below hal.below)
            have HB6 := Lib.hid (HX.out.2.below hal.below)
            have HR6 := Lib.hid (RK.of hal)
            clear hal HRW HX
            have HOT := Lib.hid (rother_rk HX6.out.rows HR6.out (rowsD_len _ _) (rowsD_len _ _) (by omega) (rows_any_le (by have := HQL.out; omega) m) (rows_any_le (by have := HX6.out.len; omega) m))
            go_wp2_with fail
            refine HOT.out.mono ?_
            rintro e w7 ⟨v9n, rfl, hi9, hb7⟩
            rw [othL_eq] at hi9
            have HN : Hid (PI w1 C b m q2 ls2 (M + 1) v7b v6 v9n w7 ∧ BoxD gb d0 d1 d2 w7) := Lib.hid ⟨by
              rw [HQ2.out, HLS.out]
              exact (HX6.out.below hb7).anew HZ.out (HR6.out.below hb7) hi9, HB6.out.below hb7⟩
            clear hi9 hb7 HOT HX6 HB6 HR6
            go_wp2_with fail
            go_meet
            case rel => exact ⟨_, _, rfl, rfl, HN⟩
          · have hyb : (yw == 0) = false := by rw [beq_eq_false_iff_ne]; exact hy0
            have HN : Hid (PI w1 C b m q2 ls2 (M + 1) v7b v8 v9 wc ∧ BoxD gb d0 d1 d2 wc) := Lib.hid ⟨by
              rw [HQ2.out, HLS.out]
              exact HX.out.1.same (by rw [← HYW.out]; exact hy0), HX.out.2⟩
            clear hy0 HX
            go_wp2_with fail
            go_meet
            case rel => exact ⟨_, _, rfl, rfl, HN⟩
        case rest =>
          obtain ⟨v8b, v9b, h8e, h9e, HPB⟩ := hcut
          subst h8e h9e
          have hyy : (yw != yw) = false := by simp
          have hmm : ((m : Int) != (m : Int)) = false := by simp
          have hcc : (((cntP q2 d1 d2 : Nat) : Int) != ((cntP q2 d1 d2 : Nat) : Int)) = false := by simp
          clear HX HQ2 HYW HLS
          go_upto_region 21 with fail
          refine wp_region_held_drew (S := fun X => X.cell? ⟨gb, 0, none⟩ = some (.int .i64 d0) ∧ X.cell? ⟨gb, 1, none⟩ = some (.int .i64 d1) ∧ X.cell? ⟨gb, 2, none⟩ = some (.int .i64 d2)) (by kernel_rfl) (HPB.out.2.below (below_drewN (Below.refl _ _) 1)).cells (fun hHeld0 => ?_)
          obtain ⟨U0, hU0⟩ : ∃ X, X = wc.drew := ⟨_, rfl⟩
          have HP : Hid (PI w1 C b m q2 ls2 (M + 1) v7b v8b v9b U0) := Lib.hid (by rw [hU0]; exact HPB.out.1.below (below_drewN (Below.refl _ _) 1))
          have HBX : Hid (BoxD gb d0 d1 d2 U0) := Lib.hid (by rw [hU0]; exact HPB.out.2.below (below_drewN (Below.refl _ _) 1))
          rw [← hU0] at hHeld0 ⊢
          clear hU0 HPB
          refine wpAnyH_take (i := 0) (v := ?_) rfl (by kernel_rfl) (by kernel_rfl) (by kernel_rfl) (fun _ _ _ h => h) (Or.inl ⟨by rfl, ?ypa0⟩) (by assumption) ?qpa0
          case ypa0 => (intro wz hSw; (try dsimp only at hSw); go_simp <;> with_reducible rfl)
          try simp only [Act.put, List.getElem_toArray, List.getElem_cons_zero, List.setIfInBounds_toArray, List.set_cons_zero, List.set_cons_succ]
          refine wpAnyH_take (i := 1) (v := ?_) rfl (by kernel_rfl) (by kernel_rfl) (by kernel_rfl) (fun _ _ _ h => h) (Or.inl ⟨by rfl, ?ypa1⟩) (by assumption) ?qpa1
          case ypa1 => (intro wz hSw; (try dsimp only at hSw); go_simp <;> with_reducible rfl)
          try simp only [Act.put, List.getElem_toArray, List.getElem_cons_zero, List.getElem_cons_succ, List.setIfInBounds_toArray, List.set_cons_zero, List.set_cons_succ]
          refine wpAnyH_take (i := 2) (v := ?_) rfl (by kernel_rfl) (by kernel_rfl) (by kernel_rfl) (fun _ _ _ h => h) (Or.inl ⟨by rfl, ?ypa2⟩) (by assumption) ?qpa2
          case ypa2 => (intro wz hSw; (try dsimp only at hSw); go_simp <;> with_reducible rfl)
          try simp only [Act.put, List.getElem_toArray, List.getElem_cons_zero, List.getElem_cons_succ, List.setIfInBounds_toArray, List.set_cons_zero, List.set_cons_succ]
          refine wpAnyH_take (i := 3) (v := ?_) rfl (by kernel_rfl) (by kernel_rfl) (by kernel_rfl) (fun _ _ _ h => h) (Or.inl ⟨by rfl, ?ypa3⟩) (by assumption) ?qpa3
          case ypa3 => (intro wz hSw; (try dsimp only at hSw); go_simp <;> with_reducible rfl)
          try simp only [Act.put, List.getElem_toArray, List.getElem_cons_zero, List.getElem_cons_succ, List.setIfInBounds_toArray, List.set_cons_zero, List.set_cons_succ]
          refine wpAnyH_take (i := 4) (v := ?_) rfl (by kernel_rfl) (by kernel_rfl) (by kernel_rfl) (fun _ _ _ h => h) (Or.inl ⟨by rfl, ?ypa4⟩) (by assumption) ?qpa4
          case ypa4 => (intro wz hSw; (try dsimp only at hSw); go_simp <;> with_reducible rfl)
          try simp only [Act.put, List.getElem_toArray, List.getElem_cons_zero, List.getElem_cons_succ, List.setIfInBounds_toArray, List.set_cons_zero, List.set_cons_succ]
          refine wpAnyH_take (i := 6) (v := ?_) rfl (by kernel_rfl) (by kernel_rfl) (by kernel_rfl) (fun _ _ _ h => h) (Or.inl ⟨by rfl, ?ypa6⟩) (by assumption) ?qpa6
          case ypa6 => (intro wz hSw; (try dsimp only at hSw); go_simp <;> with_reducible rfl)
          try simp only [Act.put, List.getElem_toArray, List.getElem_cons_zero, List.getElem_cons_succ, List.setIfInBounds_toArray, List.set_cons_zero, List.set_cons_succ]
          refine wpAnyH_ready (rs := [5]) (by kernel_rfl) (by simp) ?_
          refine AllReadyH.cons rfl (fun K hK => ?_) AllReadyH.nil
          go_simp
          refine (nodes_any HP.out.qs.v).mono ?_
          rintro e w21 ⟨rfl, hb21⟩
          replace HP := Lib.hid (HP.out.below hb21)
          replace HBX : Hid (BoxD gb d0 d1 d2 w21) := Lib.hid (HBX.out.below hb21)
          clear hb21
          refine hK.out _ _ (HBX.out.cells) (fun hHeldpa5 => ?_)
          clear hK K
          try simp only [Act.put, List.getElem_toArray, List.getElem_cons_zero, List.getElem_cons_succ, List.setIfInBounds_toArray, List.set_cons_zero, List.set_cons_succ]
          refine wpAnyH_take (i := 7) (v := ?_) rfl (by kernel_rfl) (by kernel_rfl) (by kernel_rfl) (fun _ _ _ h => h) (Or.inl ⟨by rfl, ?ypa7⟩) (by assumption) ?qpa7
          case ypa7 => (intro wz hSw; (try dsimp only at hSw); go_simp <;> with_reducible rfl)
          try simp only [Act.put, List.getElem_toArray, List.getElem_cons_zero, List.getElem_cons_succ, List.setIfInBounds_toArray, List.set_cons_zero, List.set_cons_succ]
          refine wpAnyH_take (i := 8) (v := ?_) rfl (by kernel_rfl) (by kernel_rfl) (by kernel_rfl) (fun _ _ _ h => h) (Or.inl ⟨by rfl, ?ypa8⟩) (by assumption) ?qpa8
          case ypa8 => (intro wz hSw; (try dsimp only at hSw); go_simp <;> with_reducible rfl)
          try simp only [Act.put, List.getElem_toArray, List.getElem_cons_zero, List.getElem_cons_succ, List.setIfInBounds_toArray, List.set_cons_zero, List.set_cons_succ]
          refine wpAnyH_take (i := 9) (v := ?_) rfl (by kernel_rfl) (by kernel_rfl) (by kernel_rfl) (fun _ _ _ h => h) (Or.inl ⟨by rfl, ?ypa9⟩) (by assumption) ?qpa9
          case ypa9 => (intro wz hSw; (try dsimp only at hSw); go_simp <;> with_reducible rfl)
          try simp only [Act.put, List.getElem_toArray, List.getElem_cons_zero, List.getElem_cons_succ, List.setIfInBounds_toArray, List.set_cons_zero, List.set_cons_succ]
          refine wpAnyH_take (i := 10) (v := ?_) rfl (by kernel_rfl) (by kernel_rfl) (by kernel_rfl) (fun _ _ _ h => h) (Or.inl ⟨by rfl, ?ypa10⟩) (by assumption) ?qpa10
          case ypa10 => (intro wz hSw; (try dsimp only at hSw); go_simp <;> with_reducible rfl)
          try simp only [Act.put, List.getElem_toArray, List.getElem_cons_zero, List.getElem_cons_succ, List.setIfInBounds_toArray, List.set_cons_zero, List.set_cons_succ]
          refine wpAnyH_take (i := 11) (v := ?_) rfl (by kernel_rfl) (by kernel_rfl) (by kernel_rfl) (fun _ _ _ h => h) (Or.inl ⟨by rfl, ?ypa11⟩) (by assumption) ?qpa11
          case ypa11 => (intro wz hSw; (try dsimp only at hSw); go_simp <;> with_reducible rfl)
          try simp only [Act.put, List.getElem_toArray, List.getElem_cons_zero, List.getElem_cons_succ, List.setIfInBounds_toArray, List.set_cons_zero, List.set_cons_succ]
          refine wpAnyH_take (i := 12) (v := ?_) rfl (by kernel_rfl) (by kernel_rfl) (by kernel_rfl) (fun _ _ _ h => h) (Or.inl ⟨by rfl, ?ypa12⟩) (by assumption) ?qpa12
          case ypa12 => (intro wz hSw; (try dsimp only at hSw); go_simp <;> with_reducible rfl)
          try simp only [Act.put, List.getElem_toArray, List.getElem_cons_zero, List.getElem_cons_succ, List.setIfInBounds_toArray, List.set_cons_zero, List.set_cons_succ]
          refine wpAnyH_take (i := 13) (v := ?_) rfl (by kernel_rfl) (by kernel_rfl) (by kernel_rfl) (fun _ _ _ h => h) (Or.inl ⟨by rfl, ?ypa13⟩) (by assumption) ?qpa13
          case ypa13 => (intro wz hSw; (try dsimp only at hSw); go_simp <;> with_reducible rfl)
          try simp only [Act.put, List.getElem_toArray, List.getElem_cons_zero, List.getElem_cons_succ, List.setIfInBounds_toArray, List.set_cons_zero, List.set_cons_succ]
          refine wpAnyH_take (i := 14) (v := ?_) rfl (by kernel_rfl) (by kernel_rfl) (by kernel_rfl) (fun _ _ _ h => h) (Or.inl ⟨by rfl, ?ypa14⟩) (by assumption) ?qpa14
          case ypa14 => (intro wz hSw; (try dsimp only at hSw); go_simp <;> with_reducible rfl)
          try simp only [Act.put, List.getElem_toArray, List.getElem_cons_zero, List.getElem_cons_succ, List.setIfInBounds_toArray, List.set_cons_zero, List.set_cons_succ]
          refine wpAnyH_take (i := 16) (v := ?_) rfl (by kernel_rfl) (by kernel_rfl) (by kernel_rfl) (fun _ _ _ h => h) (Or.inl ⟨by rfl, ?ypa16⟩) (by assumption) ?qpa16
          case ypa16 => (intro wz hSw; (try dsimp only at hSw); go_simp <;> with_reducible rfl)
          try simp only [Act.put, List.getElem_toArray, List.getElem_cons_zero, List.getElem_cons_succ, List.setIfInBounds_toArray, List.set_cons_zero, List.set_cons_succ]
          refine wpAnyH_take (i := 17) (v := ?_) rfl (by kernel_rfl) (by kernel_rfl) (by kernel_rfl) (fun _ _ _ h => h) (Or.inl ⟨by rfl, ?ypa17⟩) (by assumption) ?qpa17
          case ypa17 => (intro wz hSw; (try dsimp only at hSw); go_simp <;> with_reducible rfl)
          try simp only [Act.put, List.getElem_toArray, List.getElem_cons_zero, List.getElem_cons_succ, List.setIfInBounds_toArray, List.set_cons_zero, List.set_cons_succ]
          refine wpAnyH_take (i := 18) (v := ?_) rfl (by kernel_rfl) (by kernel_rfl) (by kernel_rfl) (fun _ _ _ h => h) (Or.inl ⟨by rfl, ?ypa18⟩) (by assumption) ?qpa18
          case ypa18 => (intro wz hSw; (try dsimp only at hSw); go_simp <;> with_reducible rfl)
          try simp only [Act.put, List.getElem_toArray, List.getElem_cons_zero, List.getElem_cons_succ, List.setIfInBounds_toArray, List.set_cons_zero, List.set_cons_succ]
          refine wpAnyH_take (i := 19) (v := ?_) rfl (by kernel_rfl) (by kernel_rfl) (by kernel_rfl) (fun _ _ _ h => h) (Or.inl ⟨by rfl, ?ypa19⟩) (by assumption) ?qpa19
          case ypa19 => (intro wz hSw; (try dsimp only at hSw); go_simp <;> with_reducible rfl)
          try simp only [Act.put, List.getElem_toArray, List.getElem_cons_zero, List.getElem_cons_succ, List.setIfInBounds_toArray, List.set_cons_zero, List.set_cons_succ]
          refine wpAnyH_take (i := 20) (v := ?_) rfl (by kernel_rfl) (by kernel_rfl) (by kernel_rfl) (fun _ _ _ h => h) (Or.inl ⟨by rfl, ?ypa20⟩) (by assumption) ?qpa20
          case ypa20 => (intro wz hSw; (try dsimp only at hSw); go_simp <;> with_reducible rfl)
          try simp only [Act.put, List.getElem_toArray, List.getElem_cons_zero, List.getElem_cons_succ, List.setIfInBounds_toArray, List.set_cons_zero, List.set_cons_succ]
          refine wpAnyH_ready (rs := [15]) (by kernel_rfl) (by simp) ?_
          refine AllReadyH.cons rfl (fun K hK => ?_) AllReadyH.nil
          go_simp
          refine (arcs_q HP.out.qs (by have := HP.out.len; omega) d1 d2).mono ?_
          rintro e w22 ⟨rfl, hb22⟩
          replace HP := Lib.hid (HP.out.below hb22)
          replace HBX : Hid (BoxD gb d0 d1 d2 w22) := Lib.hid (HBX.out.below hb22)
          clear hb22
          refine hK.out _ _ (HBX.out.cells) (fun hHeldpa15 => ?_)
          clear hK K
          try simp only [Act.put, List.getElem_toArray, List.getElem_cons_zero, List.getElem_cons_succ, List.setIfInBounds_toArray, List.set_cons_zero, List.set_cons_succ]
          refine wpAnyH_ready (rs := [21]) (by kernel_rfl) (by simp) ?_
          refine AllReadyH.cons rfl (fun K hK => ?_) AllReadyH.nil
          go_simp
          refine (rcount_any _ (HP.out.arcs.list (by have := HP.out.len; omega)) (by have := HP.out.len; omega) d1 d2).mono ?_
          rintro e w23 ⟨rfl, hb23⟩
          replace HP := Lib.hid (HP.out.below hb23)
          replace HBX : Hid (BoxD gb d0 d1 d2 w23) := Lib.hid (HBX.out.below hb23)
          clear hb23
          refine hK.out _ _ (HBX.out.cells) (fun hHeldpa21 => ?_)
          clear hK K
          try simp only [Act.put, List.getElem_toArray, List.getElem_cons_zero, List.getElem_cons_succ, List.setIfInBounds_toArray, List.set_cons_zero, List.set_cons_succ]
          refine wpAnyH_take (i := 22) (v := ?_) rfl (by kernel_rfl) (by kernel_rfl) (by kernel_rfl) (fun _ _ _ h => h) (Or.inl ⟨by rfl, ?ypa22⟩) (by assumption) ?qpa22
          case ypa22 => (intro wz hSw; (try dsimp only at hSw); go_simp <;> with_reducible rfl)
          try simp only [Act.put, List.getElem_toArray, List.getElem_cons_zero, List.getElem_cons_succ, List.setIfInBounds_toArray, List.set_cons_zero, List.set_cons_succ]
          refine wpAnyH_take (i := 23) (v := ?_) rfl (by kernel_rfl) (by kernel_rfl) (by kernel_rfl) (fun _ _ _ h => h) (Or.inl ⟨by rfl, ?ypa23⟩) (by assumption) ?qpa23
          case ypa23 => (intro wz hSw; (try dsimp only at hSw); go_simp <;> with_reducible rfl)
          try simp only [Act.put, List.getElem_toArray, List.getElem_cons_zero, List.getElem_cons_succ, List.setIfInBounds_toArray, List.set_cons_zero, List.set_cons_succ]
          refine wpAnyH_take (i := 24) (v := ?_) rfl (by kernel_rfl) (by kernel_rfl) (by kernel_rfl) (fun _ _ _ h => h) (Or.inl ⟨by rfl, ?ypa24⟩) (by assumption) ?qpa24
          case ypa24 => (intro wz hSw; (try dsimp only at hSw); go_simp <;> with_reducible rfl)
          try simp only [Act.put, List.getElem_toArray, List.getElem_cons_zero, List.getElem_cons_succ, List.setIfInBounds_toArray, List.set_cons_zero, List.set_cons_succ]
          refine wpAnyH_take (i := 25) (v := ?_) rfl (by kernel_rfl) (by kernel_rfl) (by kernel_rfl) (fun _ _ _ h => h) (Or.inl ⟨by rfl, ?ypa25⟩) (by assumption) ?qpa25
          case ypa25 => (intro wz hSw; (try dsimp only at hSw); go_simp <;> with_reducible rfl)
          try simp only [Act.put, List.getElem_toArray, List.getElem_cons_zero, List.getElem_cons_succ, List.setIfInBounds_toArray, List.set_cons_zero, List.set_cons_succ]
          refine wpAnyH_take (i := 27) (v := ?_) rfl (by kernel_rfl) (by kernel_rfl) (by kernel_rfl) (fun _ _ _ h => h) (Or.inl ⟨by rfl, ?ypa27⟩) (by assumption) ?qpa27
          case ypa27 => (intro wz hSw; (try dsimp only at hSw); go_simp <;> with_reducible rfl)
          try simp only [Act.put, List.getElem_toArray, List.getElem_cons_zero, List.getElem_cons_succ, List.setIfInBounds_toArray, List.set_cons_zero, List.set_cons_succ]
          refine wpAnyH_ready (rs := [26]) (by kernel_rfl) (by simp) ?_
          refine AllReadyH.cons rfl (fun K hK => ?_) AllReadyH.nil
          go_simp
          refine (last_q HP.out.qs (HP.out.tab HT1.out)).mono ?_
          rintro e w24 ⟨v24, rfl, hi24, hb24⟩
          have HL24 := Lib.hid hi24
          replace HP : Hid (PI w1 C b m q2 ls2 (M + 1) v7b v8b v9b w24) := Lib.hid (HP.out.below hb24)
          replace HBX : Hid (BoxD gb d0 d1 d2 w24) := Lib.hid (HBX.out.below hb24)
          have HLL : Hid (ls2.length ≤ 9223372036854775807) := Lib.hid (ik_len hi24)
          clear hi24 hb24
          refine hK.out _ _ (HBX.out.cells) (fun hHeldpa26 => ?_)
          clear hK K
          try simp only [Act.put, List.getElem_toArray, List.getElem_cons_zero, List.getElem_cons_succ, List.setIfInBounds_toArray, List.set_cons_zero, List.set_cons_succ]
          refine wpAnyH_ready (rs := [28]) (by kernel_rfl) (by simp) ?_
          refine AllReadyH.cons rfl (fun K hK => ?_) AllReadyH.nil
          go_simp
          refine (Lst.sameInts_yes (HL24.out.ints HLL.out) (HP.out.last.ints HLL.out)).mono ?_
          rintro e w25 ⟨rfl, qq, hw25⟩
          have hb25 : Below w24.heap.size w24 w25 := by rw [hw25]; exact below_drewN (Below.refl _ _) qq
          clear hw25 HL24 HLL
          replace HP := Lib.hid (HP.out.below hb25)
          replace HBX : Hid (BoxD gb d0 d1 d2 w25) := Lib.hid (HBX.out.below hb25)
          clear hb25
          refine hK.out _ _ (HBX.out.cells) (fun hHeldpa28 => ?_)
          clear hK K
          try simp only [Act.put, List.getElem_toArray, List.getElem_cons_zero, List.getElem_cons_succ, List.setIfInBounds_toArray, List.set_cons_zero, List.set_cons_succ]
          refine wpAnyH_take (i := 29) (v := ?_) rfl (by kernel_rfl) (by kernel_rfl) (by kernel_rfl) (fun _ _ _ h => h) (Or.inl ⟨by rfl, ?ypa29⟩) (by assumption) ?qpa29
          case ypa29 => (intro wz hSw; (try dsimp only at hSw); go_simp <;> with_reducible rfl)
          try simp only [Act.put, List.getElem_toArray, List.getElem_cons_zero, List.getElem_cons_succ, List.setIfInBounds_toArray, List.set_cons_zero, List.set_cons_succ]
          refine wpAnyH_take (i := 30) (v := ?_) rfl (by kernel_rfl) (by kernel_rfl) (by kernel_rfl) (fun _ _ _ h => h) (Or.inl ⟨by rfl, ?ypa30⟩) (by assumption) ?qpa30
          case ypa30 => (intro wz hSw; (try dsimp only at hSw); go_simp <;> with_reducible rfl)
          try simp only [Act.put, List.getElem_toArray, List.getElem_cons_zero, List.getElem_cons_succ, List.setIfInBounds_toArray, List.set_cons_zero, List.set_cons_succ]
          refine wpAnyH_done (by kernel_rfl) ?_ _
          clear hyy hmm hcc hHeld0
          obtain ⟨p8b, c8b, hv8⟩ := HP.out.rows.form (rowsD_len q2 m)
          subst hv8
          have HL2 : Hid (PI w1 C b m q2 ls2 (M + 1) v7b (.slice p8b m c8b) v9b w25 ∧ BoxD gb d0 d1 d2 w25) := Lib.hid ⟨HP.out, HBX.out⟩
          clear HP HBX
          go_wp2_with fail
          go_loopw [112] (fun s112 wr2 => ∃ i : Nat, s112 = .int .i64 (i : Int) ∧ i ≤ m ∧ Hid (PI w1 C b m q2 ls2 (M + 1) v7b (.slice p8b m c8b) v9b wr2 ∧ BoxD gb d0 d1 d2 wr2)) (fun s112 _ => m - (intOf s112).toNat)
          case atStart => exact ⟨0, rfl, Nat.zero_le _, HL2⟩
          case round =>
            clear HL2
            obtain ⟨i, rfl, hi, HQ⟩ := hrel
            obtain ⟨wr2, hwr2⟩ : ∃ X, X = wr := ⟨_, rfl⟩
            subst hwr2
            by_cases him : i < m
            · have hii : (i : Int) < (m : Int) := by omega
              have hiN : isN m (i : Int) = true := decide_eq_true (by omega)
              obtain ⟨g8, c8', p9, n9, c9, hv8, hg8, hget⟩ := rk_get HQ.out.1.rows (i := i) (by rw [rowsD_len]; exact him) (by have := rows_any_le (q := q2) (by have := HQ.out.1.len; omega) m i; omega)
              rw [rowsD_len] at hv8
              injection hv8 with e1 _ e3
              subst e1 e3
              rw [rowsD_get q2 him] at hget
              have HRC := Lib.hid hget
              have HRL : Hid ((rowD q2 (i : Int)).length ≤ 9223372036854775807) := Lib.hid (by have := rows_any_le (q := q2) (by have := HQ.out.1.len; omega) m i; rw [rowsD_get q2 him] at this; omega)
              obtain ⟨z8, _⟩ := HRC.out wr2 (Below.refl _ _)
              have HP : Hid (PI w1 C b m q2 ls2 (M + 1) v7b (.slice (some ⟨g8, 0, none⟩) m c8b) v9b wr2.drew) := Lib.hid (HQ.out.1.below (below_drewN (Below.refl _ _) 1))
              have HBX : Hid (BoxD gb d0 d1 d2 wr2.drew) := Lib.hid (HQ.out.2.below (below_drewN (Below.refl _ _) 1))
              clear hget HQ
              cases hbit : decide (d2 ∈ rowD q2 (i : Int)) with
              | false =>
                have hbb : (false != false) = false := rfl
                go_upto_region 26 with fail
                refine wp_region_held_drew (S := fun X => (X.cell? ⟨gb, 0, none⟩ = some (.int .i64 d0) ∧ X.cell? ⟨gb, 1, none⟩ = some (.int .i64 d1) ∧ X.cell? ⟨gb, 2, none⟩ = some (.int .i64 d2)) ∧ X.cell? ⟨g8, i, none⟩ = some (.slice p9 n9 c9)) (by kernel_rfl) ⟨HBX.out.cells, (HRC.out _ (below_drewN (Below.refl _ _) 1)).1⟩ (fun hHeld0 => ?_)
                refine wpAnyH_take (i := 0) (v := ?_) rfl (by kernel_rfl) (by kernel_rfl) (by kernel_rfl) (fun _ _ _ h => h) (Or.inl ⟨by rfl, ?ypb0⟩) (by assumption) ?qpb0
                case ypb0 => (intro wz hSw; (try dsimp only at hSw); go_simp <;> with_reducible rfl)
                try simp only [Act.put, List.getElem_toArray, List.getElem_cons_zero, List.setIfInBounds_toArray, List.set_cons_zero, List.set_cons_succ]
                refine wpAnyH_take (i := 1) (v := ?_) rfl (by kernel_rfl) (by kernel_rfl) (by kernel_rfl) (fun _ _ _ h => h) (Or.inl ⟨by rfl, ?ypb1⟩) (by assumption) ?qpb1
                case ypb1 => (intro wz hSw; (try dsimp only at hSw); go_simp <;> with_reducible rfl)
                try simp only [Act.put, List.getElem_toArray, List.getElem_cons_zero, List.getElem_cons_succ, List.setIfInBounds_toArray, List.set_cons_zero, List.set_cons_succ]
                refine wpAnyH_take (i := 3) (v := ?_) rfl (by kernel_rfl) (by kernel_rfl) (by kernel_rfl) (fun _ _ _ h => h) (Or.inl ⟨by rfl, ?ypb3⟩) (by assumption) ?qpb3
                case ypb3 => (intro wz hSw; (try dsimp only at hSw); go_simp <;> with_reducible rfl)
                try simp only [Act.put, List.getElem_toArray, List.getElem_cons_zero, List.getElem_cons_succ, List.setIfInBounds_toArray, List.set_cons_zero, List.set_cons_succ]
                refine wpAnyH_ready (rs := [2]) (by kernel_rfl) (by simp) ?_
                refine AllReadyH.cons rfl (fun K hK => ?_) AllReadyH.nil
                go_simp
                refine (row_q HP.out.qs (HP.out.tab HT1.out) (i : Int)).mono ?_
                rintro e w31 ⟨v31, rfl, hi31, hb31⟩
                rw [hiN, if_pos rfl] at hi31
                have HL31 := Lib.hid hi31
                replace HP : Hid (PI w1 C b m q2 ls2 (M + 1) v7b (.slice (some ⟨g8, 0, none⟩) m c8b) v9b w31) := Lib.hid (HP.out.below hb31)
                replace HBX : Hid (BoxD gb d0 d1 d2 w31) := Lib.hid (HBX.out.below hb31)
                have HBB31 : Hid (Below wr2.heap.size wr2 w31) := Lib.hid ((below_drewN (Below.refl _ wr2) 1).trans (hb31.mono (Nat.le_refl _)))
                clear hi31 hb31
                refine hK.out _ _ (⟨HBX.out.cells, (HRC.out _ HBB31.out).1⟩) (fun hHeldpb2 => ?_)
                clear hK K
                try simp only [Act.put, List.getElem_toArray, List.getElem_cons_zero, List.getElem_cons_succ, List.setIfInBounds_toArray, List.set_cons_zero, List.set_cons_succ]
                refine wpAnyH_ready (rs := [4]) (by kernel_rfl) (by simp) ?_
                refine AllReadyH.cons rfl (fun K hK => ?_) AllReadyH.nil
                go_simp
                refine (Lst.sameInts_yes (HL31.out.ints HRL.out) ((HRC.out _ HBB31.out).2)).mono ?_
                rintro e w32 ⟨rfl, qq, hw32⟩
                have hb32 : Below w31.heap.size w31 w32 := by rw [hw32]; exact below_drewN (Below.refl _ _) qq
                clear hw32 HL31
                have HBB32 : Hid (Below wr2.heap.size wr2 w32) := Lib.hid (HBB31.out.trans (hb32.mono HBB31.out.size))
                replace HP := Lib.hid (HP.out.below hb32)
                replace HBX : Hid (BoxD gb d0 d1 d2 w32) := Lib.hid (HBX.out.below hb32)
                clear hb32
                refine hK.out _ _ (⟨HBX.out.cells, (HRC.out _ HBB32.out).1⟩) (fun hHeldpb4 => ?_)
                clear hK K
                try simp only [Act.put, List.getElem_toArray, List.getElem_cons_zero, List.getElem_cons_succ, List.setIfInBounds_toArray, List.set_cons_zero, List.set_cons_succ]
                refine wpAnyH_take (i := 5) (v := ?_) rfl (by kernel_rfl) (by kernel_rfl) (by kernel_rfl) (fun _ _ _ h => h) (Or.inl ⟨by rfl, ?ypb5⟩) (by assumption) ?qpb5
                case ypb5 => (intro wz hSw; (try dsimp only at hSw); go_simp <;> with_reducible rfl)
                try simp only [Act.put, List.getElem_toArray, List.getElem_cons_zero, List.getElem_cons_succ, List.setIfInBounds_toArray, List.set_cons_zero, List.set_cons_succ]
                refine wpAnyH_take (i := 6) (v := ?_) rfl (by kernel_rfl) (by kernel_rfl) (by kernel_rfl) (fun _ _ _ h => h) (Or.inl ⟨by rfl, ?ypb6⟩) (by assumption) ?qpb6
                case ypb6 => (intro wz hSw; (try dsimp only at hSw); go_simp <;> with_reducible rfl)
                try simp only [Act.put, List.getElem_toArray, List.getElem_cons_zero, List.getElem_cons_succ, List.setIfInBounds_toArray, List.set_cons_zero, List.set_cons_succ]
                refine wpAnyH_take (i := 7) (v := ?_) rfl (by kernel_rfl) (by kernel_rfl) (by kernel_rfl) (fun _ _ _ h => h) (Or.inl ⟨by rfl, ?ypb7⟩) (by assumption) ?qpb7
                case ypb7 => (intro wz hSw; (try dsimp only at hSw); go_simp <;> with_reducible rfl)
                try simp only [Act.put, List.getElem_toArray, List.getElem_cons_zero, List.getElem_cons_succ, List.setIfInBounds_toArray, List.set_cons_zero, List.set_cons_succ]
                refine wpAnyH_take (i := 8) (v := ?_) rfl (by kernel_rfl) (by kernel_rfl) (by kernel_rfl) (fun _ _ _ h => h) (Or.inl ⟨by rfl, ?ypb8⟩) (by assumption) ?qpb8
                case ypb8 => (intro wz hSw; (try dsimp only at hSw); go_simp <;> with_reducible rfl)
                try simp only [Act.put, List.getElem_toArray, List.getElem_cons_zero, List.getElem_cons_succ, List.setIfInBounds_toArray, List.set_cons_zero, List.set_cons_succ]
                refine wpAnyH_take (i := 9) (v := ?_) rfl (by kernel_rfl) (by kernel_rfl) (by kernel_rfl) (fun _ _ _ h => h) (Or.inl ⟨by rfl, ?ypb9⟩) (by assumption) ?qpb9
                case ypb9 => (intro wz hSw; (try dsimp only at hSw); go_simp <;> with_reducible rfl)
                try simp only [Act.put, List.getElem_toArray, List.getElem_cons_zero, List.getElem_cons_succ, List.setIfInBounds_toArray, List.set_cons_zero, List.set_cons_succ]
                refine wpAnyH_take (i := 10) (v := ?_) rfl (by kernel_rfl) (by kernel_rfl) (by kernel_rfl) (fun _ _ _ h => h) (Or.inl ⟨by rfl, ?ypb10⟩) (by assumption) ?qpb10
                case ypb10 => (intro wz hSw; (try dsimp only at hSw); go_simp <;> with_reducible rfl)
                try simp only [Act.put, List.getElem_toArray, List.getElem_cons_zero, List.getElem_cons_succ, List.setIfInBounds_toArray, List.set_cons_zero, List.set_cons_succ]
                refine wpAnyH_take (i := 12) (v := ?_) rfl (by kernel_rfl) (by kernel_rfl) (by kernel_rfl) (fun _ _ _ h => h) (Or.inl ⟨by rfl, ?ypb12⟩) (by assumption) ?qpb12
                case ypb12 => (intro wz hSw; (try dsimp only at hSw); go_simp <;> with_reducible rfl)
                try simp only [Act.put, List.getElem_toArray, List.getElem_cons_zero, List.getElem_cons_succ, List.setIfInBounds_toArray, List.set_cons_zero, List.set_cons_succ]
                refine wpAnyH_take (i := 13) (v := ?_) rfl (by kernel_rfl) (by kernel_rfl) (by kernel_rfl) (fun _ _ _ h => h) (Or.inl ⟨by rfl, ?ypb13⟩) (by assumption) ?qpb13
                case ypb13 => (intro wz hSw; (try dsimp only at hSw); go_simp <;> with_reducible rfl)
                try simp only [Act.put, List.getElem_toArray, List.getElem_cons_zero, List.getElem_cons_succ, List.setIfInBounds_toArray, List.set_cons_zero, List.set_cons_succ]
                refine wpAnyH_take (i := 14) (v := ?_) rfl (by kernel_rfl) (by kernel_rfl) (by kernel_rfl) (fun _ _ _ h => h) (Or.inl ⟨by rfl, ?ypb14⟩) (by assumption) ?qpb14
                case ypb14 => (intro wz hSw; (try dsimp only at hSw); go_simp <;> with_reducible rfl)
                try simp only [Act.put, List.getElem_toArray, List.getElem_cons_zero, List.getElem_cons_succ, List.setIfInBounds_toArray, List.set_cons_zero, List.set_cons_succ]
                refine wpAnyH_ready (rs := [11]) (by kernel_rfl) (by simp) ?_
                refine AllReadyH.cons rfl (fun K hK => ?_) AllReadyH.nil
                go_simp
                refine (reaches_q HP.out.qs (i : Int) d2).mono ?_
                rintro e w33 ⟨rfl, hb33⟩
                rw [hiN, Bool.true_and, hbit]
                have HBB33 : Hid (Below wr2.heap.size wr2 w33) := Lib.hid (HBB32.out.trans (hb33.mono HBB32.out.size))
                replace HP := Lib.hid (HP.out.below hb33)
                replace HBX : Hid (BoxD gb d0 d1 d2 w33) := Lib.hid (HBX.out.below hb33)
                clear hb33
                refine hK.out _ _ (⟨HBX.out.cells, (HRC.out _ HBB33.out).1⟩) (fun hHeldpb11 => ?_)
                clear hK K
                try simp only [Act.put, List.getElem_toArray, List.getElem_cons_zero, List.getElem_cons_succ, List.setIfInBounds_toArray, List.set_cons_zero, List.set_cons_succ]
                refine wpAnyH_ready (rs := [15]) (by kernel_rfl) (by simp) ?_
                refine AllReadyH.cons rfl (fun K hK => ?_) AllReadyH.nil
                go_simp
                refine (Rf.in_any d2 w33 ((HRC.out _ HBB33.out).2)).mono ?_
                rintro e _ ⟨rfl, rfl⟩
                rw [hbit]
                refine hK.out _ _ (⟨HBX.out.cells, (HRC.out _ HBB33.out).1⟩) (fun hHeldpb15 => ?_)
                clear hK K
                try simp only [Act.put, List.getElem_toArray, List.getElem_cons_zero, List.getElem_cons_succ, List.setIfInBounds_toArray, List.set_cons_zero, List.set_cons_succ]
                refine wpAnyH_take (i := 16) (v := ?_) rfl (by kernel_rfl) (by kernel_rfl) (by kernel_rfl) (fun _ _ _ h => h) (Or.inl ⟨by rfl, ?ypb16⟩) (by assumption) ?qpb16
                case ypb16 => (intro wz hSw; (try dsimp only at hSw); go_simp <;> with_reducible rfl)
                try simp only [Act.put, List.getElem_toArray, List.getElem_cons_zero, List.getElem_cons_succ, List.setIfInBounds_toArray, List.set_cons_zero, List.set_cons_succ]
                refine wpAnyH_take (i := 17) (v := ?_) rfl (by kernel_rfl) (by kernel_rfl) (by kernel_rfl) (fun _ _ _ h => h) (Or.inl ⟨by rfl, ?ypb17⟩) (by assumption) ?qpb17
                case ypb17 => (intro wz hSw; (try dsimp only at hSw); go_simp <;> with_reducible rfl)
                try simp only [Act.put, List.getElem_toArray, List.getElem_cons_zero, List.getElem_cons_succ, List.setIfInBounds_toArray, List.set_cons_zero, List.set_cons_succ]
                refine wpAnyH_done (by kernel_rfl) ?_ _
                have HN : Hid (PI w1 C b m q2 ls2 (M + 1) v7b (.slice (some ⟨g8, 0, none⟩) m c8b) v9b w33 ∧ BoxD gb d0 d1 d2 w33) := Lib.hid ⟨HP.out, HBX.out⟩
                clear HP HBX HRC z8 hg8 hHeld0
                go_wp2_with fail
                go_roundw
                case rel => exact ⟨i + 1, by go_num, by omega, HN⟩
                case measure => simp [intOf]; omega
              | true =>
                have hbb : (true != true) = false := rfl
                go_upto_region 26 with fail
                refine wp_region_held_drew (S := fun X => (X.cell? ⟨gb, 0, none⟩ = some (.int .i64 d0) ∧ X.cell? ⟨gb, 1, none⟩ = some (.int .i64 d1) ∧ X.cell? ⟨gb, 2, none⟩ = some (.int .i64 d2)) ∧ X.cell? ⟨g8, i, none⟩ = some (.slice p9 n9 c9)) (by kernel_rfl) ⟨HBX.out.cells, (HRC.out _ (below_drewN (Below.refl _ _) 1)).1⟩ (fun hHeld0 => ?_)
                refine wpAnyH_take (i := 0) (v := ?_) rfl (by kernel_rfl) (by kernel_rfl) (by kernel_rfl) (fun _ _ _ h => h) (Or.inl ⟨by rfl, ?ypc0⟩) (by assumption) ?qpc0
                case ypc0 => (intro wz hSw; (try dsimp only at hSw); go_simp <;> with_reducible rfl)
                try simp only [Act.put, List.getElem_toArray, List.getElem_cons_zero, List.setIfInBounds_toArray, List.set_cons_zero, List.set_cons_succ]
                refine wpAnyH_take (i := 1) (v := ?_) rfl (by kernel_rfl) (by kernel_rfl) (by kernel_rfl) (fun _ _ _ h => h) (Or.inl ⟨by rfl, ?ypc1⟩) (by assumption) ?qpc1
                case ypc1 => (intro wz hSw; (try dsimp only at hSw); go_simp <;> with_reducible rfl)
                try simp only [Act.put, List.getElem_toArray, List.getElem_cons_zero, List.getElem_cons_succ, List.setIfInBounds_toArray, List.set_cons_zero, List.set_cons_succ]
                refine wpAnyH_take (i := 3) (v := ?_) rfl (by kernel_rfl) (by kernel_rfl) (by kernel_rfl) (fun _ _ _ h => h) (Or.inl ⟨by rfl, ?ypc3⟩) (by assumption) ?qpc3
                case ypc3 => (intro wz hSw; (try dsimp only at hSw); go_simp <;> with_reducible rfl)
                try simp only [Act.put, List.getElem_toArray, List.getElem_cons_zero, List.getElem_cons_succ, List.setIfInBounds_toArray, List.set_cons_zero, List.set_cons_succ]
                refine wpAnyH_ready (rs := [2]) (by kernel_rfl) (by simp) ?_
                refine AllReadyH.cons rfl (fun K hK => ?_) AllReadyH.nil
                go_simp
                refine (row_q HP.out.qs (HP.out.tab HT1.out) (i : Int)).mono ?_
                rintro e w31 ⟨v31, rfl, hi31, hb31⟩
                rw [hiN, if_pos rfl] at hi31
                have HL31 := Lib.hid hi31
                replace HP : Hid (PI w1 C b m q2 ls2 (M + 1) v7b (.slice (some ⟨g8, 0, none⟩) m c8b) v9b w31) := Lib.hid (HP.out.below hb31)
                replace HBX : Hid (BoxD gb d0 d1 d2 w31) := Lib.hid (HBX.out.below hb31)
                have HBB31 : Hid (Below wr2.heap.size wr2 w31) := Lib.hid ((below_drewN (Below.refl _ wr2) 1).trans (hb31.mono (Nat.le_refl _)))
                clear hi31 hb31
                refine hK.out _ _ (⟨HBX.out.cells, (HRC.out _ HBB31.out).1⟩) (fun hHeldpc2 => ?_)
                clear hK K
                try simp only [Act.put, List.getElem_toArray, List.getElem_cons_zero, List.getElem_cons_succ, List.setIfInBounds_toArray, List.set_cons_zero, List.set_cons_succ]
                refine wpAnyH_ready (rs := [4]) (by kernel_rfl) (by simp) ?_
                refine AllReadyH.cons rfl (fun K hK => ?_) AllReadyH.nil
                go_simp
                refine (Lst.sameInts_yes (HL31.out.ints HRL.out) ((HRC.out _ HBB31.out).2)).mono ?_
                rintro e w32 ⟨rfl, qq, hw32⟩
                have hb32 : Below w31.heap.size w31 w32 := by rw [hw32]; exact below_drewN (Below.refl _ _) qq
                clear hw32 HL31
                have HBB32 : Hid (Below wr2.heap.size wr2 w32) := Lib.hid (HBB31.out.trans (hb32.mono HBB31.out.size))
                replace HP := Lib.hid (HP.out.below hb32)
                replace HBX : Hid (BoxD gb d0 d1 d2 w32) := Lib.hid (HBX.out.below hb32)
                clear hb32
                refine hK.out _ _ (⟨HBX.out.cells, (HRC.out _ HBB32.out).1⟩) (fun hHeldpc4 => ?_)
                clear hK K
                try simp only [Act.put, List.getElem_toArray, List.getElem_cons_zero, List.getElem_cons_succ, List.setIfInBounds_toArray, List.set_cons_zero, List.set_cons_succ]
                refine wpAnyH_take (i := 5) (v := ?_) rfl (by kernel_rfl) (by kernel_rfl) (by kernel_rfl) (fun _ _ _ h => h) (Or.inl ⟨by rfl, ?ypc5⟩) (by assumption) ?qpc5
                case ypc5 => (intro wz hSw; (try dsimp only at hSw); go_simp <;> with_reducible rfl)
                try simp only [Act.put, List.getElem_toArray, List.getElem_cons_zero, List.getElem_cons_succ, List.setIfInBounds_toArray, List.set_cons_zero, List.set_cons_succ]
                refine wpAnyH_take (i := 6) (v := ?_) rfl (by kernel_rfl) (by kernel_rfl) (by kernel_rfl) (fun _ _ _ h => h) (Or.inl ⟨by rfl, ?ypc6⟩) (by assumption) ?qpc6
                case ypc6 => (intro wz hSw; (try dsimp only at hSw); go_simp <;> with_reducible rfl)
                try simp only [Act.put, List.getElem_toArray, List.getElem_cons_zero, List.getElem_cons_succ, List.setIfInBounds_toArray, List.set_cons_zero, List.set_cons_succ]
                refine wpAnyH_take (i := 7) (v := ?_) rfl (by kernel_rfl) (by kernel_rfl) (by kernel_rfl) (fun _ _ _ h => h) (Or.inl ⟨by rfl, ?ypc7⟩) (by assumption) ?qpc7
                case ypc7 => (intro wz hSw; (try dsimp only at hSw); go_simp <;> with_reducible rfl)
                try simp only [Act.put, List.getElem_toArray, List.getElem_cons_zero, List.getElem_cons_succ, List.setIfInBounds_toArray, List.set_cons_zero, List.set_cons_succ]
                refine wpAnyH_take (i := 8) (v := ?_) rfl (by kernel_rfl) (by kernel_rfl) (by kernel_rfl) (fun _ _ _ h => h) (Or.inl ⟨by rfl, ?ypc8⟩) (by assumption) ?qpc8
                case ypc8 => (intro wz hSw; (try dsimp only at hSw); go_simp <;> with_reducible rfl)
                try simp only [Act.put, List.getElem_toArray, List.getElem_cons_zero, List.getElem_cons_succ, List.setIfInBounds_toArray, List.set_cons_zero, List.set_cons_succ]
                refine wpAnyH_take (i := 9) (v := ?_) rfl (by kernel_rfl) (by kernel_rfl) (by kernel_rfl) (fun _ _ _ h => h) (Or.inl ⟨by rfl, ?ypc9⟩) (by assumption) ?qpc9
                case ypc9 => (intro wz hSw; (try dsimp only at hSw); go_simp <;> with_reducible rfl)
                try simp only [Act.put, List.getElem_toArray, List.getElem_cons_zero, List.getElem_cons_succ, List.setIfInBounds_toArray, List.set_cons_zero, List.set_cons_succ]
                refine wpAnyH_take (i := 10) (v := ?_) rfl (by kernel_rfl) (by kernel_rfl) (by kernel_rfl) (fun _ _ _ h => h) (Or.inl ⟨by rfl, ?ypc10⟩) (by assumption) ?qpc10
                case ypc10 => (intro wz hSw; (try dsimp only at hSw); go_simp <;> with_reducible rfl)
                try simp only [Act.put, List.getElem_toArray, List.getElem_cons_zero, List.getElem_cons_succ, List.setIfInBounds_toArray, List.set_cons_zero, List.set_cons_succ]
                refine wpAnyH_take (i := 12) (v := ?_) rfl (by kernel_rfl) (by kernel_rfl) (by kernel_rfl) (fun _ _ _ h => h) (Or.inl ⟨by rfl, ?ypc12⟩) (by assumption) ?qpc12
                case ypc12 => (intro wz hSw; (try dsimp only at hSw); go_simp <;> with_reducible rfl)
                try simp only [Act.put, List.getElem_toArray, List.getElem_cons_zero, List.getElem_cons_succ, List.setIfInBounds_toArray, List.set_cons_zero, List.set_cons_succ]
                refine wpAnyH_take (i := 13) (v := ?_) rfl (by kernel_rfl) (by kernel_rfl) (by kernel_rfl) (fun _ _ _ h => h) (Or.inl ⟨by rfl, ?ypc13⟩) (by assumption) ?qpc13
                case ypc13 => (intro wz hSw; (try dsimp only at hSw); go_simp <;> with_reducible rfl)
                try simp only [Act.put, List.getElem_toArray, List.getElem_cons_zero, List.getElem_cons_succ, List.setIfInBounds_toArray, List.set_cons_zero, List.set_cons_succ]
                refine wpAnyH_take (i := 14) (v := ?_) rfl (by kernel_rfl) (by kernel_rfl) (by kernel_rfl) (fun _ _ _ h => h) (Or.inl ⟨by rfl, ?ypc14⟩) (by assumption) ?qpc14
                case ypc14 => (intro wz hSw; (try dsimp only at hSw); go_simp <;> with_reducible rfl)
                try simp only [Act.put, List.getElem_toArray, List.getElem_cons_zero, List.getElem_cons_succ, List.setIfInBounds_toArray, List.set_cons_zero, List.set_cons_succ]
                refine wpAnyH_ready (rs := [11]) (by kernel_rfl) (by simp) ?_
                refine AllReadyH.cons rfl (fun K hK => ?_) AllReadyH.nil
                go_simp
                refine (reaches_q HP.out.qs (i : Int) d2).mono ?_
                rintro e w33 ⟨rfl, hb33⟩
                rw [hiN, Bool.true_and, hbit]
                have HBB33 : Hid (Below wr2.heap.size wr2 w33) := Lib.hid (HBB32.out.trans (hb33.mono HBB32.out.size))
                replace HP := Lib.hid (HP.out.below hb33)
                replace HBX : Hid (BoxD gb d0 d1 d2 w33) := Lib.hid (HBX.out.below hb33)
                clear hb33
                refine hK.out _ _ (⟨HBX.out.cells, (HRC.out _ HBB33.out).1⟩) (fun hHeldpc11 => ?_)
                clear hK K
                try simp only [Act.put, List.getElem_toArray, List.getElem_cons_zero, List.getElem_cons_succ, List.setIfInBounds_toArray, List.set_cons_zero, List.set_cons_succ]
                refine wpAnyH_ready (rs := [15]) (by kernel_rfl) (by simp) ?_
                refine AllReadyH.cons rfl (fun K hK => ?_) AllReadyH.nil
                go_simp
                refine (Rf.in_any d2 w33 ((HRC.out _ HBB33.out).2)).mono ?_
                rintro e _ ⟨rfl, rfl⟩
                rw [hbit]
                refine hK.out _ _ (⟨HBX.out.cells, (HRC.out _ HBB33.out).1⟩) (fun hHeldpc15 => ?_)
                clear hK K
                try simp only [Act.put, List.getElem_toArray, List.getElem_cons_zero, List.getElem_cons_succ, List.setIfInBounds_toArray, List.set_cons_zero, List.set_cons_succ]
                refine wpAnyH_take (i := 16) (v := ?_) rfl (by kernel_rfl) (by kernel_rfl) (by kernel_rfl) (fun _ _ _ h => h) (Or.inl ⟨by rfl, ?ypc16⟩) (by assumption) ?qpc16
                case ypc16 => (intro wz hSw; (try dsimp only at hSw); go_simp <;> with_reducible rfl)
                try simp only [Act.put, List.getElem_toArray, List.getElem_cons_zero, List.getElem_cons_succ, List.setIfInBounds_toArray, List.set_cons_zero, List.set_cons_succ]
                refine wpAnyH_take (i := 17) (v := ?_) rfl (by kernel_rfl) (by kernel_rfl) (by kernel_rfl) (fun _ _ _ h => h) (Or.inl ⟨by rfl, ?ypc17⟩) (by assumption) ?qpc17
                case ypc17 => (intro wz hSw; (try dsimp only at hSw); go_simp <;> with_reducible rfl)
                try simp only [Act.put, List.getElem_toArray, List.getElem_cons_zero, List.getElem_cons_succ, List.setIfInBounds_toArray, List.set_cons_zero, List.set_cons_succ]
                refine wpAnyH_done (by kernel_rfl) ?_ _
                have HN : Hid (PI w1 C b m q2 ls2 (M + 1) v7b (.slice (some ⟨g8, 0, none⟩) m c8b) v9b w33 ∧ BoxD gb d0 d1 d2 w33) := Lib.hid ⟨HP.out, HBX.out⟩
                clear HP HBX HRC z8 hg8 hHeld0
                go_wp2_with fail
                go_roundw
                case rel => exact ⟨i + 1, by go_num, by omega, HN⟩
                case measure => simp [intOf]; omega
            · have hii : ¬ (i : Int) < (m : Int) := by omega
              obtain ⟨e0, e1, e2⟩ := HQ.out.2.cells
              have hgbl := heap_lt HQ.out.2
              have HTH := Lib.hid (there_any m d1 wr2)
              cases hu : isN m d1 with
              | true =>
                rw [hu] at HTH
                go_wp2_with fail
                refine HTH.out.mono ?_
                rintro e _ ⟨rfl, rfl⟩
                have HN : Hid (∃ q ls, PI w1 C b m q ls (M + 1) v7b (.slice p8b m c8b) v9b wr2) := Lib.hid ⟨q2, ls2, HQ.out.1⟩
                clear HQ HTH e0 e1 e2 hgbl
                go_wp2_with fail
                go_roundw
                case rel => exact ⟨M + 1, by go_num, by omega, _, _, _, rfl, rfl, rfl, HN⟩
                case measure => simp [intOf]; omega
              | false =>
                rw [hu] at HTH
                have HRO := row_q HQ.out.1.qs (HQ.out.1.tab HT1.out) d1
                rw [hu, if_neg (by decide)] at HRO
                have HRO := Lib.hid HRO
                go_wp2_with fail
                refine HTH.out.mono ?_
                rintro e _ ⟨rfl, rfl⟩
                go_wp2_with fail
                refine HRO.out.mono ?_
                rintro e w41 ⟨v41, rfl, hi41, hb41⟩
                obtain ⟨p41, c41, hv41⟩ := hi41.form (k := 0) rfl
                subst hv41
                have HN : Hid (∃ q ls, PI w1 C b m q ls (M + 1) v7b (.slice p8b m c8b) v9b w41) := Lib.hid ⟨q2, ls2, HQ.out.1.below hb41⟩
                clear HQ HTH HRO hi41 hb41 e0 e1 e2 hgbl
                go_wp2_with fail
                go_roundw
                case rel => exact ⟨M + 1, by go_num, by omega, _, _, _, rfl, rfl, rfl, HN⟩
                case measure => simp [intOf]; omega
    · have hMi : ¬ (M : Int) < (L : Int) := by omega
      have HLIV := Lib.hid (lives_cs wr (HPI.out.tab HT1.out))
      have HB0 := Lib.hid HPI.out.bel
      clear HPI hlt hM
      go_wp2_with fail
      refine HLIV.out.mono ?_
      rintro e w3 ⟨rfl, hb3⟩
      have HB : Hid (Below w1.heap.size w1 w3) := Lib.hid (HB0.out.trans (hb3.mono HB0.out.size))
      clear hb3
      go_wp2
      go_ret
      exact ⟨rfl, HB.out⟩
end Go.Proofs.YtakgepdlninnhaaDoor.Cs
