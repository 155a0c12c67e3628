/-
  Walks: contract of the document's Text. Not a statement of the seat.
-/
import Derived.Test.YtjknnbeemcpppaaDoorWkP
import Derived.Test.YtjknnbeemcpppaaDoorNuRef2
import Derived.Deep.RegionHeld3
namespace Go.Proofs.YtjknnbeemcpppaaDoor.Wk
open Go.ChangeShapes Go.WideShapes Go.ChangeAt Go.RowKit Base Go.Lib Nu Sb Pk F
set_option maxRecDepth 100000 in
set_option maxHeartbeats 8000000 in
theorem rtext_wk {v : Value} {l : List E} {n : Nat} (w : World) (h : Eds w v l) (hn : l.length = n) (hl : n ≤ 1000) (ho : OkL l) : Calls Tryd.prog 19 #[v] w (TextPost (textL l) w) := by
  obtain ⟨p, c, rfl, hc⟩ := eds_at h hn
  have HC := Lib.hid hc
  have HTX : Hid (∀ i X, Calls Tryd.prog 34 #[.int .i64 (l.getD i zE).1] X (TextPost (itoa (l.getD i zE).1) X) ∧ Calls Tryd.prog 34 #[.int .i64 (l.getD i zE).2.1] X (TextPost (itoa (l.getD i zE).2.1) X) ∧ Calls Tryd.prog 34 #[.int .i64 (l.getD i zE).2.2.2] X (TextPost (itoa (l.getD i zE).2.2.2) X)) := Lib.hid fun i X => ⟨textR_any _ (ho i).1.1 (ho i).1.2 X, textR_any _ (ho i).2.1.1 (ho i).2.1.2 X, textR_any _ (ho i).2.2.2.1 (ho i).2.2.2.2 X⟩
  have HLN : Hid (∀ i, (itoa (l.getD i zE).2.1).length ≤ 20 ∧ (itoa (l.getD i zE).2.2.2).length ≤ 20 ∧ (itoa (l.getD i zE).1).length ≤ 20) := Lib.hid fun i => ⟨itoa_len (ho i).2.1.1 (ho i).2.1.2, itoa_len (ho i).2.2.2.1 (ho i).2.2.2.2, itoa_len (ho i).1.1 (ho i).1.2⟩
  obtain ⟨T, hT⟩ : ∃ T : Nat → List UInt8, T = fun i => itoa (l.getD 0 zE).1 ++ pcs l i := ⟨_, rfl⟩
  have HTL : Hid (∀ i, i ≤ n → (T i).length ≤ 70000) := Lib.hid fun i hi => by
    rw [hT]
    have a := pcs_len ho i (by omega)
    have b := (HLN.out 0).2.2
    simp only [List.length_append]
    omega
  have HTS : Hid (∀ i, i < n → T (i + 1) = T i ++ ([32] ++ wordK (l.getD i zE).2.2.1 ++ itoa (l.getD i zE).2.2.2 ++ [32] ++ itoa (l.getD i zE).2.1)) := Lib.hid fun i hi => by
    rw [hT]
    dsimp only
    rw [pcs_succ l i (by omega), List.append_assoc]
    rfl
  have HT0 : Hid (itoa (l.getD 0 zE).1 = T 0) := Lib.hid (by rw [hT]; simp [pcs])
  obtain ⟨R, hR⟩ : ∃ R : Nat → List UInt8, R = fun i => if i = 0 then [] else T i := ⟨_, rfl⟩
  have HR0 : Hid (R 0 = []) := Lib.hid (by rw [hR]; simp)
  have HRS : Hid (∀ i, 0 < i → R i = T i) := Lib.hid fun i hi => by rw [hR]; simp; omega
  have HTE : Hid (R n = textL l) := Lib.hid (by
    unfold textL
    by_cases e : n = 0
    · rw [if_pos (by omega), hR, e]; simp
    · rw [if_neg (by omega), hR, hT, hn]; simp [e])
  have hni : (n : Int) ≤ 1000 := by omega
  clear h hc hn ho hT hR
  generalize textL l = r at HTE ⊢
  go_enter Tryd.func19, Tryd.ntmps19
  go_wp2_with fail
  go_loopw [3, 8] (fun s3 s8 wr => ∃ (i : Nat) (b : ByteArray), s8 = .int .i64 (i : Int) ∧ s3 = .string b ∧ i ≤ n ∧ Hid (b.data.toList = R i ∧ Below w.heap.size w wr)) (fun _ s8 _ => n - (intOf s8).toNat)
  case atStart => exact ⟨0, _, rfl, rfl, Nat.zero_le _, Lib.hid ⟨HR0.out.symm, Below.refl _ _⟩⟩
  case round =>
    obtain ⟨i, b, rfl, rfl, hi, HI⟩ := hrel
    by_cases hlt : i < n
    · have hii : (i : Int) < (n : Int) := by omega
      obtain ⟨g, o, rfl, hcl⟩ := HC.out i hlt
      obtain ⟨hg, a0, a1, a2, a3⟩ := hcl wr HI.out.2
      have HTF := Lib.hid (fun X => (HTX.out i X).1)
      have HT1 := Lib.hid (fun X => (HTX.out i X).2.1)
      have HT3 := Lib.hid (fun X => (HTX.out i X).2.2)
      have HWD := Lib.hid (fun X => rword_any (l.getD i zE).2.2.1 X)
      have HL := Lib.hid (HLN.out i)
      have hw2 := wordK_len (l.getD i zE).2.2.1
      have HFT0 : Hid (∀ (b0 s : ByteArray), b0.data.toList = T i → s = b0 ++ ((⟨#[32]⟩ : ByteArray) ++ ⟨(wordK (l.getD i zE).2.2.1).toArray⟩ ++ ⟨(itoa (l.getD i zE).2.2.2).toArray⟩ ++ ⟨#[32]⟩ ++ ⟨(itoa (l.getD i zE).2.1).toArray⟩) → s.data.toList = R (i + 1)) := Lib.hid fun b0 s hb hs => by
        rw [HRS.out _ (Nat.succ_pos _), HTS.out i hlt, hs, ← hb]
        simp
      have HFT := HFT0
      clear HFT0
      have HLT := Lib.hid (HTL.out i hi)
      have HE0 : Hid (i = 0 → (l.getD i zE).1 = (l.getD 0 zE).1) := Lib.hid fun e => by rw [e]
      have HF0 : Hid (i = 0 → itoa (l.getD i zE).1 = T i) := Lib.hid fun e => by rw [e]; exact HT0.out
      have HFP : Hid (0 < i → b.data.toList = T i) := Lib.hid fun e => by rw [← HRS.out i e]; exact HI.out.1
      generalize l.getD i zE = x at a0 a1 a2 a3 HTF HT1 HT3 HWD HL hw2 HFT HE0 HF0
      obtain ⟨x0, x1, x2, x3⟩ := x
      dsimp only at a0 a1 a2 a3 HTF HT1 HT3 HWD HL hw2 HFT HE0 HF0
      obtain ⟨hl1, hl3, hl0⟩ := HL.out
      generalize itoa x1 = t1 at HT1 hl1 HFT
      generalize itoa x3 = t3 at HT3 hl3 HFT
      generalize wordK x2 = wd at HWD hw2 HFT
      obtain ⟨wq, hwq⟩ : ∃ X, X = wr.alloc (boxE (x0, x1, x2, x3)) := ⟨_, rfl⟩
      obtain ⟨gx, hgx⟩ : ∃ gx, gx = wr.heap.size := ⟨_, rfl⟩
      have hbx : wq.heap[gx]? = some (boxE (x0, x1, x2, x3)) := by rw [hwq]; exact heap_alloc_at _ _ _ hgx
      have hbq : Below wr.heap.size wr wq := by rw [hwq]; exact alloc_bel wr _
      have HBQ : Hid (Below w.heap.size w wq) := Lib.hid (HI.out.2.trans (hbq.mono HI.out.2.size))
      have HS : Hid (∀ X : World, X.heap[gx]? = some (boxE (x0, x1, x2, x3)) → gx < X.heap.size ∧ X.cell? ⟨gx, 1, none⟩ = some (.int .i64 x1) ∧ X.cell? ⟨gx, 2, none⟩ = some (.int .i64 x2) ∧ X.cell? ⟨gx, 3, none⟩ = some (.int .i64 x3)) := Lib.hid fun X hX => ⟨heap_lt hX, (boxE_at hX).2.1, (boxE_at hX).2.2.1, (boxE_at hX).2.2.2⟩
      have hq1 : ¬ 9223372036854775807 < 1 + wd.length := by omega
      have hq2 : ¬ 9223372036854775807 < 1 + wd.length + t3.length := by omega
      have hq3 : ¬ 9223372036854775807 < 1 + wd.length + t3.length + 1 := by omega
      have hq4 : ¬ 9223372036854775807 < 1 + wd.length + t3.length + 1 + t1.length := by omega
      unfold boxE at hwq
      dsimp only at hwq
      clear hcl hbq HL
      by_cases hi0 : i = 0
      · have HXQ := Lib.hid hbx
        have HIT : Hid (itoa x0 = T 0) := Lib.hid (by have := HF0.out hi0; rwa [hi0] at this)
        clear HFP HE0 HF0 HI hbx
        subst hi0
        rw [Nat.zero_mul, Nat.add_zero] at a0 a1 a2 a3
        go_upto_region 6 with fail
        rw [← hwq]
        clear hwq a0 a1 a2 a3 hg
        rw [← hgx]
        clear hgx
        obtain ⟨d0, _⟩ := boxE_at HXQ.out
        have hlx := heap_lt HXQ.out
        dsimp only at d0
        go_wp2_with fail
        refine (HTF.out wq).mono ?_
        rintro e wz0 ⟨rfl, hbz⟩
        have HBZ : Hid (Below w.heap.size w wz0) := Lib.hid (HBQ.out.trans (hbz.mono HBQ.out.size))
        have hbz0 := keep_block hbz HXQ.out
        have HLX := Lib.hid hl0
        obtain ⟨b0, hb0⟩ : ∃ b0 : ByteArray, b0 = ⟨(itoa x0).toArray⟩ := ⟨_, rfl⟩
        rw [← hb0]
        have HZ0 : Hid (b0.data.toList = T 0) := Lib.hid (by rw [← HIT.out, hb0])
        have hbs : b0.size ≤ 70000 := by
          have : b0.size = b0.data.toList.length := by simp
          rw [this, HZ0.out]
          exact HLT.out
        clear hbz hb0 d0 hlx HTF HBQ HXQ
        have hq5 : ¬ 9223372036854775807 < b0.size + (1 + wd.length + t3.length + 1 + t1.length) := by omega
        have HXB : Hid ((wz0.drewN 1).heap[gx]? = some (boxE (x0, x1, x2, x3))) := Lib.hid hbz0
        have HBD : Hid (Below w.heap.size w (wz0.drewN 1)) := Lib.hid (below_drewN HBZ.out 1)
        clear hbz0
        go_upto_region 7 with fail
        refine wp_region_held_drew (S := fun X => gx < X.heap.size ∧ X.cell? ⟨gx, 1, none⟩ = some (.int .i64 x1) ∧ X.cell? ⟨gx, 2, none⟩ = some (.int .i64 x2) ∧ X.cell? ⟨gx, 3, none⟩ = some (.int .i64 x3)) (by kernel_rfl) (HS.out _ HXB.out) (fun hHeld0 => ?_)
        refine wpAnyH_take (i := 0) (v := ?_) rfl (by kernel_rfl) (by kernel_rfl) (by kernel_rfl) (fun _ _ _ h => h) (Or.inl ⟨by rfl, ?yva0⟩) (by assumption) ?qva0
        case yva0 => (intro wz hSw; (try dsimp only at hSw); go_simp <;> with_reducible rfl)
        try simp only [Act.put, List.getElem_toArray, List.getElem_cons_zero, List.setIfInBounds_toArray, List.set_cons_zero, List.set_cons_succ]
        refine wpAnyH_take (i := 1) (v := ?_) rfl (by kernel_rfl) (by kernel_rfl) (by kernel_rfl) (fun _ _ _ h => h) (Or.inl ⟨by rfl, ?yva1⟩) (by assumption) ?qva1
        case yva1 => (intro wz hSw; (try dsimp only at hSw); go_simp <;> with_reducible rfl)
        try simp only [Act.put, List.getElem_toArray, List.getElem_cons_zero, List.getElem_cons_succ, List.setIfInBounds_toArray, List.set_cons_zero, List.set_cons_succ]
        refine wpAnyH_take (i := 2) (v := ?_) rfl (by kernel_rfl) (by kernel_rfl) (by kernel_rfl) (fun _ _ _ h => h) (Or.inl ⟨by rfl, ?yva2⟩) (by assumption) ?qva2
        case yva2 => (intro wz hSw; (try dsimp only at hSw); go_simp <;> with_reducible rfl)
        try simp only [Act.put, List.getElem_toArray, List.getElem_cons_zero, List.getElem_cons_succ, List.setIfInBounds_toArray, List.set_cons_zero, List.set_cons_succ]
        refine wpAnyH_take (i := 5) (v := ?_) rfl (by kernel_rfl) (by kernel_rfl) (by kernel_rfl) (fun _ _ _ h => h) (Or.inl ⟨by rfl, ?yva5⟩) (by assumption) ?qva5
        case yva5 => (intro wz hSw; (try dsimp only at hSw); go_simp <;> with_reducible rfl)
        try simp only [Act.put, List.getElem_toArray, List.getElem_cons_zero, List.getElem_cons_succ, List.setIfInBounds_toArray, List.set_cons_zero, List.set_cons_succ]
        refine wpAnyH_take (i := 6) (v := ?_) rfl (by kernel_rfl) (by kernel_rfl) (by kernel_rfl) (fun _ _ _ h => h) (Or.inl ⟨by rfl, ?yva6⟩) (by assumption) ?qva6
        case yva6 => (intro wz hSw; (try dsimp only at hSw); go_simp <;> with_reducible rfl)
        try simp only [Act.put, List.getElem_toArray, List.getElem_cons_zero, List.getElem_cons_succ, List.setIfInBounds_toArray, List.set_cons_zero, List.set_cons_succ]
        refine wpAnyH_take (i := 10) (v := ?_) rfl (by kernel_rfl) (by kernel_rfl) (by kernel_rfl) (fun _ _ _ h => h) (Or.inl ⟨by rfl, ?yva10⟩) (by assumption) ?qva10
        case yva10 => (intro wz hSw; (try dsimp only at hSw); go_simp <;> with_reducible rfl)
        try simp only [Act.put, List.getElem_toArray, List.getElem_cons_zero, List.getElem_cons_succ, List.setIfInBounds_toArray, List.set_cons_zero, List.set_cons_succ]
        refine wpAnyH_take (i := 11) (v := ?_) rfl (by kernel_rfl) (by kernel_rfl) (by kernel_rfl) (fun _ _ _ h => h) (Or.inl ⟨by rfl, ?yva11⟩) (by assumption) ?qva11
        case yva11 => (intro wz hSw; (try dsimp only at hSw); go_simp <;> with_reducible rfl)
        try simp only [Act.put, List.getElem_toArray, List.getElem_cons_zero, List.getElem_cons_succ, List.setIfInBounds_toArray, List.set_cons_zero, List.set_cons_succ]
        refine wpAnyH_ready (rs := [3]) (by kernel_rfl) (by simp) ?_
        refine AllReadyH.cons rfl (fun K hK => ?_) AllReadyH.nil
        go_simp
        refine (HWD.out _).mono ?_
        rintro e w5 ⟨rfl, rfl⟩
        refine hK.out _ _ (HS.out _ HXB.out) (fun hHeldva3 => ?_)
        clear hK K
        try simp only [Act.put, List.getElem_toArray, List.getElem_cons_zero, List.getElem_cons_succ, List.setIfInBounds_toArray, List.set_cons_zero, List.set_cons_succ]
        refine wpAnyH_take (i := 4) (v := ?_) rfl (by kernel_rfl) (by kernel_rfl) (by kernel_rfl) (fun _ _ _ h => h) (Or.inl ⟨by rfl, ?yva4⟩) (by assumption) ?qva4
        case yva4 => (intro wz hSw; (try dsimp only at hSw); go_simp <;> with_reducible rfl)
        try simp only [Act.put, List.getElem_toArray, List.getElem_cons_zero, List.getElem_cons_succ, List.setIfInBounds_toArray, List.set_cons_zero, List.set_cons_succ]
        refine wpAnyH_ready (rs := [7]) (by kernel_rfl) (by simp) ?_
        refine AllReadyH.cons rfl (fun K hK => ?_) AllReadyH.nil
        go_simp
        refine (HT3.out _).mono ?_
        rintro e w6 ⟨rfl, hb6⟩
        have HB6 : Hid (Below w.heap.size w w6 ∧ w6.heap[gx]? = some (boxE (x0, x1, x2, x3))) := Lib.hid ⟨HBD.out.trans (hb6.mono HBD.out.size), keep_block hb6 HXB.out⟩
        clear hb6
        refine hK.out _ _ (HS.out _ HB6.out.2) (fun hHeldva7 => ?_)
        clear hK K
        try simp only [Act.put, List.getElem_toArray, List.getElem_cons_zero, List.getElem_cons_succ, List.setIfInBounds_toArray, List.set_cons_zero, List.set_cons_succ]
        refine wpAnyH_take (i := 8) (v := ?_) rfl (by kernel_rfl) (by kernel_rfl) (by kernel_rfl) (fun _ _ _ h => h) (Or.inl ⟨by rfl, ?yva8⟩) (by assumption) ?qva8
        case yva8 => (intro wz hSw; (try dsimp only at hSw); go_simp <;> with_reducible rfl)
        try simp only [Act.put, List.getElem_toArray, List.getElem_cons_zero, List.getElem_cons_succ, List.setIfInBounds_toArray, List.set_cons_zero, List.set_cons_succ]
        refine wpAnyH_take (i := 9) (v := ?_) rfl (by kernel_rfl) (by kernel_rfl) (by kernel_rfl) (fun _ _ _ h => h) (Or.inl ⟨by rfl, ?yva9⟩) (by assumption) ?qva9
        case yva9 => (intro wz hSw; (try dsimp only at hSw); go_simp <;> with_reducible rfl)
        try simp only [Act.put, List.getElem_toArray, List.getElem_cons_zero, List.getElem_cons_succ, List.setIfInBounds_toArray, List.set_cons_zero, List.set_cons_succ]
        refine wpAnyH_ready (rs := [12]) (by kernel_rfl) (by simp) ?_
        refine AllReadyH.cons rfl (fun K hK => ?_) AllReadyH.nil
        go_simp
        refine (HT1.out _).mono ?_
        rintro e w7 ⟨rfl, hb7⟩
        have HB7 : Hid (Below w.heap.size w w7 ∧ w7.heap[gx]? = some (boxE (x0, x1, x2, x3))) := Lib.hid ⟨HB6.out.1.trans (hb7.mono HB6.out.1.size), keep_block hb7 HB6.out.2⟩
        clear hb7
        refine hK.out _ _ (HS.out _ HB7.out.2) (fun hHeldva12 => ?_)
        clear hK K
        try simp only [Act.put, List.getElem_toArray, List.getElem_cons_zero, List.getElem_cons_succ, List.setIfInBounds_toArray, List.set_cons_zero, List.set_cons_succ]
        refine wpAnyH_take (i := 13) (v := ?_) rfl (by kernel_rfl) (by kernel_rfl) (by kernel_rfl) (fun _ _ _ h => h) (Or.inl ⟨by rfl, ?yva13⟩) (by assumption) ?qva13
        case yva13 => (intro wz hSw; (try dsimp only at hSw); go_simp <;> with_reducible rfl)
        try simp only [Act.put, List.getElem_toArray, List.getElem_cons_zero, List.getElem_cons_succ, List.setIfInBounds_toArray, List.set_cons_zero, List.set_cons_succ]
        refine wpAnyH_take (i := 14) (v := ?_) rfl (by kernel_rfl) (by kernel_rfl) (by kernel_rfl) (fun _ _ _ h => h) (Or.inl ⟨by rfl, ?yva14⟩) (by assumption) ?qva14
        case yva14 => (intro wz hSw; (try dsimp only at hSw); go_simp <;> with_reducible rfl)
        try simp only [Act.put, List.getElem_toArray, List.getElem_cons_zero, List.getElem_cons_succ, List.setIfInBounds_toArray, List.set_cons_zero, List.set_cons_succ]
        refine wpAnyH_take (i := 15) (v := ?_) rfl (by kernel_rfl) (by kernel_rfl) (by kernel_rfl) (fun _ _ _ h => h) (Or.inl ⟨by rfl, ?yva15⟩) (by assumption) ?qva15
        case yva15 => (intro wz hSw; (try dsimp only at hSw); go_simp <;> with_reducible rfl)
        try simp only [Act.put, List.getElem_toArray, List.getElem_cons_zero, List.getElem_cons_succ, List.setIfInBounds_toArray, List.set_cons_zero, List.set_cons_succ]
        refine wpAnyH_done (by kernel_rfl) ?_ _
        have HN := Lib.hid HB7.out.1
        clear hHeldva12 hHeldva7 hHeldva3 hHeld0 HS HT1 HT3 HWD hq1 hq2 hq3 hq4 hq5 hl1 hl3 hw2
        go_wp2_with fail
        go_roundw
        case rel => exact ⟨0 + 1, _, by go_num, rfl, by omega, Lib.hid ⟨HFT.out _ _ HZ0.out rfl, HN.out⟩⟩
        case measure => simp [intOf]; omega
      · have hin0 : ((i : Int) == 0) = false := by rw [beq_eq_false_iff_ne]; omega
        have HZ0 : Hid (b.data.toList = T i) := Lib.hid (HFP.out (by omega))
        have hbs : b.size ≤ 70000 := by
          have : b.size = b.data.toList.length := by simp
          rw [this, HZ0.out]
          exact HLT.out
        clear HFP HE0 HF0 HI HTF
        rename ByteArray => b0
        have HBZ := HBQ
        have hbz0 := hbx
        clear hbx HBQ
        rename World => wz0
        have hq5 : ¬ 9223372036854775807 < b0.size + (1 + wd.length + t3.length + 1 + t1.length) := by omega
        have HXB : Hid ((wz0.drewN 1).heap[gx]? = some (boxE (x0, x1, x2, x3))) := Lib.hid hbz0
        have HBD : Hid (Below w.heap.size w (wz0.drewN 1)) := Lib.hid (below_drewN HBZ.out 1)
        clear hbz0
        go_upto_region 7 with fail
        rw [← hwq]
        clear hwq a0 a1 a2 a3 hg
        rw [← hgx]
        clear hgx
        refine wp_region_held_drew (S := fun X => gx < X.heap.size ∧ X.cell? ⟨gx, 1, none⟩ = some (.int .i64 x1) ∧ X.cell? ⟨gx, 2, none⟩ = some (.int .i64 x2) ∧ X.cell? ⟨gx, 3, none⟩ = some (.int .i64 x3)) (by kernel_rfl) (HS.out _ HXB.out) (fun hHeld0 => ?_)
        refine wpAnyH_take (i := 0) (v := ?_) rfl (by kernel_rfl) (by kernel_rfl) (by kernel_rfl) (fun _ _ _ h => h) (Or.inl ⟨by rfl, ?yvb0⟩) (by assumption) ?qvb0
        case yvb0 => (intro wz hSw; (try dsimp only at hSw); go_simp <;> with_reducible rfl)
        try simp only [Act.put, List.getElem_toArray, List.getElem_cons_zero, List.setIfInBounds_toArray, List.set_cons_zero, List.set_cons_succ]
        refine wpAnyH_take (i := 1) (v := ?_) rfl (by kernel_rfl) (by kernel_rfl) (by kernel_rfl) (fun _ _ _ h => h) (Or.inl ⟨by rfl, ?yvb1⟩) (by assumption) ?qvb1
        case yvb1 => (intro wz hSw; (try dsimp only at hSw); go_simp <;> with_reducible rfl)
        try simp only [Act.put, List.getElem_toArray, List.getElem_cons_zero, List.getElem_cons_succ, List.setIfInBounds_toArray, List.set_cons_zero, List.set_cons_succ]
        refine wpAnyH_take (i := 2) (v := ?_) rfl (by kernel_rfl) (by kernel_rfl) (by kernel_rfl) (fun _ _ _ h => h) (Or.inl ⟨by rfl, ?yvb2⟩) (by assumption) ?qvb2
        case yvb2 => (intro wz hSw; (try dsimp only at hSw); go_simp <;> with_reducible rfl)
        try simp only [Act.put, List.getElem_toArray, List.getElem_cons_zero, List.getElem_cons_succ, List.setIfInBounds_toArray, List.set_cons_zero, List.set_cons_succ]
        refine wpAnyH_take (i := 5) (v := ?_) rfl (by kernel_rfl) (by kernel_rfl) (by kernel_rfl) (fun _ _ _ h => h) (Or.inl ⟨by rfl, ?yvb5⟩) (by assumption) ?qvb5
        case yvb5 => (intro wz hSw; (try dsimp only at hSw); go_simp <;> with_reducible rfl)
        try simp only [Act.put, List.getElem_toArray, List.getElem_cons_zero, List.getElem_cons_succ, List.setIfInBounds_toArray, List.set_cons_zero, List.set_cons_succ]
        refine wpAnyH_take (i := 6) (v := ?_) rfl (by kernel_rfl) (by kernel_rfl) (by kernel_rfl) (fun _ _ _ h => h) (Or.inl ⟨by rfl, ?yvb6⟩) (by assumption) ?qvb6
        case yvb6 => (intro wz hSw; (try dsimp only at hSw); go_simp <;> with_reducible rfl)
        try simp only [Act.put, List.getElem_toArray, List.getElem_cons_zero, List.getElem_cons_succ, List.setIfInBounds_toArray, List.set_cons_zero, List.set_cons_succ]
        refine wpAnyH_take (i := 10) (v := ?_) rfl (by kernel_rfl) (by kernel_rfl) (by kernel_rfl) (fun _ _ _ h => h) (Or.inl ⟨by rfl, ?yvb10⟩) (by assumption) ?qvb10
        case yvb10 => (intro wz hSw; (try dsimp only at hSw); go_simp <;> with_reducible rfl)
        try simp only [Act.put, List.getElem_toArray, List.getElem_cons_zero, List.getElem_cons_succ, List.setIfInBounds_toArray, List.set_cons_zero, List.set_cons_succ]
        refine wpAnyH_take (i := 11) (v := ?_) rfl (by kernel_rfl) (by kernel_rfl) (by kernel_rfl) (fun _ _ _ h => h) (Or.inl ⟨by rfl, ?yvb11⟩) (by assumption) ?qvb11
        case yvb11 => (intro wz hSw; (try dsimp only at hSw); go_simp <;> with_reducible rfl)
        try simp only [Act.put, List.getElem_toArray, List.getElem_cons_zero, List.getElem_cons_succ, List.setIfInBounds_toArray, List.set_cons_zero, List.set_cons_succ]
        refine wpAnyH_ready (rs := [3]) (by kernel_rfl) (by simp) ?_
        refine AllReadyH.cons rfl (fun K hK => ?_) AllReadyH.nil
        go_simp
        refine (HWD.out _).mono ?_
        rintro e w5 ⟨rfl, rfl⟩
        refine hK.out _ _ (HS.out _ HXB.out) (fun hHeldvb3 => ?_)
        clear hK K
        try simp only [Act.put, List.getElem_toArray, List.getElem_cons_zero, List.getElem_cons_succ, List.setIfInBounds_toArray, List.set_cons_zero, List.set_cons_succ]
        refine wpAnyH_take (i := 4) (v := ?_) rfl (by kernel_rfl) (by kernel_rfl) (by kernel_rfl) (fun _ _ _ h => h) (Or.inl ⟨by rfl, ?yvb4⟩) (by assumption) ?qvb4
        case yvb4 => (intro wz hSw; (try dsimp only at hSw); go_simp <;> with_reducible rfl)
        try simp only [Act.put, List.getElem_toArray, List.getElem_cons_zero, List.getElem_cons_succ, List.setIfInBounds_toArray, List.set_cons_zero, List.set_cons_succ]
        refine wpAnyH_ready (rs := [7]) (by kernel_rfl) (by simp) ?_
        refine AllReadyH.cons rfl (fun K hK => ?_) AllReadyH.nil
        go_simp
        refine (HT3.out _).mono ?_
        rintro e w6 ⟨rfl, hb6⟩
        have HB6 : Hid (Below w.heap.size w w6 ∧ w6.heap[gx]? = some (boxE (x0, x1, x2, x3))) := Lib.hid ⟨HBD.out.trans (hb6.mono HBD.out.size), keep_block hb6 HXB.out⟩
        clear hb6
        refine hK.out _ _ (HS.out _ HB6.out.2) (fun hHeldvb7 => ?_)
        clear hK K
        try simp only [Act.put, List.getElem_toArray, List.getElem_cons_zero, List.getElem_cons_succ, List.setIfInBounds_toArray, List.set_cons_zero, List.set_cons_succ]
        refine wpAnyH_take (i := 8) (v := ?_) rfl (by kernel_rfl) (by kernel_rfl) (by kernel_rfl) (fun _ _ _ h => h) (Or.inl ⟨by rfl, ?yvb8⟩) (by assumption) ?qvb8
        case yvb8 => (intro wz hSw; (try dsimp only at hSw); go_simp <;> with_reducible rfl)
        try simp only [Act.put, List.getElem_toArray, List.getElem_cons_zero, List.getElem_cons_succ, List.setIfInBounds_toArray, List.set_cons_zero, List.set_cons_succ]
        refine wpAnyH_take (i := 9) (v := ?_) rfl (by kernel_rfl) (by kernel_rfl) (by kernel_rfl) (fun _ _ _ h => h) (Or.inl ⟨by rfl, ?yvb9⟩) (by assumption) ?qvb9
        case yvb9 => (intro wz hSw; (try dsimp only at hSw); go_simp <;> with_reducible rfl)
        try simp only [Act.put, List.getElem_toArray, List.getElem_cons_zero, List.getElem_cons_succ, List.setIfInBounds_toArray, List.set_cons_zero, List.set_cons_succ]
        refine wpAnyH_ready (rs := [12]) (by kernel_rfl) (by simp) ?_
        refine AllReadyH.cons rfl (fun K hK => ?_) AllReadyH.nil
        go_simp
        refine (HT1.out _).mono ?_
        rintro e w7 ⟨rfl, hb7⟩
        have HB7 : Hid (Below w.heap.size w w7 ∧ w7.heap[gx]? = some (boxE (x0, x1, x2, x3))) := Lib.hid ⟨HB6.out.1.trans (hb7.mono HB6.out.1.size), keep_block hb7 HB6.out.2⟩
        clear hb7
        refine hK.out _ _ (HS.out _ HB7.out.2) (fun hHeldvb12 => ?_)
        clear hK K
        try simp only [Act.put, List.getElem_toArray, List.getElem_cons_zero, List.getElem_cons_succ, List.setIfInBounds_toArray, List.set_cons_zero, List.set_cons_succ]
        refine wpAnyH_take (i := 13) (v := ?_) rfl (by kernel_rfl) (by kernel_rfl) (by kernel_rfl) (fun _ _ _ h => h) (Or.inl ⟨by rfl, ?yvb13⟩) (by assumption) ?qvb13
        case yvb13 => (intro wz hSw; (try dsimp only at hSw); go_simp <;> with_reducible rfl)
        try simp only [Act.put, List.getElem_toArray, List.getElem_cons_zero, List.getElem_cons_succ, List.setIfInBounds_toArray, List.set_cons_zero, List.set_cons_succ]
        refine wpAnyH_take (i := 14) (v := ?_) rfl (by kernel_rfl) (by kernel_rfl) (by kernel_rfl) (fun _ _ _ h => h) (Or.inl ⟨by rfl, ?yvb14⟩) (by assumption) ?qvb14
        case yvb14 => (intro wz hSw; (try dsimp only at hSw); go_simp <;> with_reducible rfl)
        try simp only [Act.put, List.getElem_toArray, List.getElem_cons_zero, List.getElem_cons_succ, List.setIfInBounds_toArray, List.set_cons_zero, List.set_cons_succ]
        refine wpAnyH_take (i := 15) (v := ?_) rfl (by kernel_rfl) (by kernel_rfl) (by kernel_rfl) (fun _ _ _ h => h) (Or.inl ⟨by rfl, ?yvb15⟩) (by assumption) ?qvb15
        case yvb15 => (intro wz hSw; (try dsimp only at hSw); go_simp <;> with_reducible rfl)
        try simp only [Act.put, List.getElem_toArray, List.getElem_cons_zero, List.getElem_cons_succ, List.setIfInBounds_toArray, List.set_cons_zero, List.set_cons_succ]
        refine wpAnyH_done (by kernel_rfl) ?_ _
        have HN := Lib.hid HB7.out.1
        clear hHeldvb12 hHeldvb7 hHeldvb3 hHeld0 HS HT1 HT3 HWD hq1 hq2 hq3 hq4 hq5 hl1 hl3 hw2
        go_wp2_with fail
        go_roundw
        case rel => exact ⟨i + 1, _, by go_num, rfl, by omega, Lib.hid ⟨HFT.out _ _ HZ0.out rfl, HN.out⟩⟩
        case measure => simp [intOf]; omega
    · have hin : i = n := by omega
      subst hin
      have HF2 : Hid (TextPost r w (.returned (.string b)) wr) := Lib.hid ⟨by rw [← HTE.out, ← HI.out.1], HI.out.2⟩
      have hii : ¬ (i : Int) < (i : Int) := by omega
      clear HI hlt
      go_wp2
      go_ret
      exact HF2.out
end Go.Proofs.YtjknnbeemcpppaaDoor.Wk
