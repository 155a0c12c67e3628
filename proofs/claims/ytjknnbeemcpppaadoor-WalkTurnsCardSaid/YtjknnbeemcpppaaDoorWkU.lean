/-
  Walks: contract of the program's Text. Not a statement of the seat.
-/
import Derived.Test.YtjknnbeemcpppaaDoorWkP
import Derived.Deep.RegionHeld3
namespace Go.Proofs.YtjknnbeemcpppaaDoor.Wk
open Go.ChangeShapes Go.WideShapes Go.ChangeAt Go.RowKit Base Go.Lib Nu Sb Pk F
set_option maxRecDepth 100000 in
set_option maxHeartbeats 8000000 in
theorem text_wk {v : Value} {l : List E} {n : Nat} (w : World) (h : Eds w v l) (hn : l.length = n) (hl : n ≤ 1000) (ho : OkL l) (hp : Pow w) : Calls Tryd.prog 18 #[v] w (TextPost (textL l) w) := by
  obtain ⟨p, c, rfl, hc⟩ := eds_at h hn
  have HC := Lib.hid hc
  rcases Nat.eq_zero_or_pos n with h0 | h0
  · subst h0
    have hz : textL l = [] := by unfold textL; rw [if_pos hn]
    rw [hz]
    clear h hc hn HC
    go_enter Tryd.func18, Tryd.ntmps18
    go_wp2
    go_ret
    exact ⟨rfl, Below.refl _ _⟩
  have hn0 : ((n : Int) == 0) = false := by rw [beq_eq_false_iff_ne]; omega
  have hnp : (0 : Int) < (n : Int) := by omega
  have HPW : Hid (∀ X, Below w.heap.size w X → Pow X) := Lib.hid fun X hX => hp.below hX
  have HTX : Hid (∀ i X, Below w.heap.size w X → Calls Tryd.prog 31 #[.int .i64 (l.getD i zE).1] X (TextPost (itoa (l.getD i zE).1) X) ∧ Calls Tryd.prog 31 #[.int .i64 (l.getD i zE).2.1] X (TextPost (itoa (l.getD i zE).2.1) X) ∧ Calls Tryd.prog 31 #[.int .i64 (l.getD i zE).2.2.2] X (TextPost (itoa (l.getD i zE).2.2.2) X)) := Lib.hid fun i X hX => ⟨text_any _ (ho i).1.1 (ho i).1.2 X (hp.below hX), text_any _ (ho i).2.1.1 (ho i).2.1.2 X (hp.below hX), text_any _ (ho i).2.2.2.1 (ho i).2.2.2.2 X (hp.below hX)⟩
  have HLN : Hid (∀ i, (itoa (l.getD i zE).2.1).length ≤ 20 ∧ (itoa (l.getD i zE).2.2.2).length ≤ 20 ∧ (itoa (l.getD i zE).1).length ≤ 20) := Lib.hid fun i => ⟨itoa_len (ho i).2.1.1 (ho i).2.1.2, itoa_len (ho i).2.2.2.1 (ho i).2.2.2.2, itoa_len (ho i).1.1 (ho i).1.2⟩
  obtain ⟨T, hT⟩ : ∃ T : Nat → List UInt8, T = fun i => itoa (l.getD 0 zE).1 ++ pcs l i := ⟨_, rfl⟩
  have HTL : Hid (∀ i, i ≤ n → (T i).length ≤ 70000) := Lib.hid fun i hi => by
    rw [hT]
    have a := pcs_len ho i (by omega)
    have b := (HLN.out 0).2.2
    simp only [List.length_append]
    omega
  have HTS : Hid (∀ i, i < n → T (i + 1) = T i ++ ([32] ++ wordK (l.getD i zE).2.2.1 ++ itoa (l.getD i zE).2.2.2 ++ [32] ++ itoa (l.getD i zE).2.1)) := Lib.hid fun i hi => by
    rw [hT]
    dsimp only
    rw [pcs_succ l i (by omega), List.append_assoc]
    rfl
  have HT0 : Hid (itoa (l.getD 0 zE).1 = T 0) := Lib.hid (by rw [hT]; simp [pcs])
  have HTE : Hid (T n = textL l) := Lib.hid (by unfold textL; rw [if_neg (by omega), hT, ← hn])
  have HNP := Lib.hid h0
  have hni : (n : Int) ≤ 1000 := by omega
  clear h hc hn ho hp hT h0
  generalize textL l = r at HTE ⊢
  obtain ⟨g, o, rfl, hcl⟩ := HC.out 0 HNP.out
  have hgf := Lib.hid hcl
  clear hcl
  rw [Nat.zero_mul, Nat.add_zero] at hgf
  obtain ⟨w1, hw1⟩ : ∃ X, X = w.alloc (.cells #[.pointer none, .slice none 0 0] 45) := ⟨_, rfl⟩
  have HB1 : Hid (Below w.heap.size w w1) := Lib.hid (by rw [hw1]; exact alloc_bel w _)
  have HSB : Hid (SbAt w.heap.size w.heap.size [] w1) := Lib.hid (by rw [hw1]; exact sb_fresh w)
  obtain ⟨hg, a0, _⟩ := hgf.out w1 HB1.out
  have HF := Lib.hid ((HTX.out 0 w1 HB1.out).1)
  have HL0 := Lib.hid (HLN.out 0).2.2
  generalize (l.getD 0 zE).1 = f0 at a0 HF HT0 HL0
  rw [HT0.out] at HF HL0
  clear hgf
  go_enter Tryd.func18, Tryd.ntmps18
  go_upto_region 4 with fail
  rw [← hw1]
  clear hw1
  go_wp2_with fail
  refine HF.out.mono ?_
  rintro e w2 ⟨rfl, hb2⟩
  have HWR := Lib.hid (string_keep w.heap.size w.heap.size [] ⟨(T 0).toArray⟩ w2 (sb_below HSB.out hb2) (by have := HL0.out; show 0 + (T 0).toArray.size ≤ _; simp; omega) (Nat.le_trans HB1.out.size hb2.size))
  have HB2 : Hid (Below w.heap.size w w2) := Lib.hid (HB1.out.trans (hb2.mono HB1.out.size))
  clear hb2 HF HSB hg a0
  go_wp2_with fail
  refine HWR.out.mono ?_
  rintro e w3 ⟨⟨rfl, hsb3, hb3⟩, _⟩
  have HI3 : Hid (SbAt w.heap.size w.heap.size (T 0) w3 ∧ Below w.heap.size w w3) := Lib.hid ⟨by simpa using hsb3, HB2.out.trans hb3⟩
  clear hsb3 hb3 HWR
  go_wp2_with fail
  go_loopw [17] (fun s17 wr => ∃ i : Nat, s17 = .int .i64 (i : Int) ∧ i ≤ n ∧ Hid (SbAt w.heap.size w.heap.size (T i) wr ∧ Below w.heap.size w wr)) (fun s17 _ => n - (intOf s17).toNat)
  case atStart => exact ⟨0, rfl, Nat.zero_le _, HI3⟩
  case round =>
    clear HI3
    obtain ⟨i, rfl, hi, HI⟩ := hrel
    by_cases hlt : i < n
    · have hii : (i : Int) < (n : Int) := by omega
      obtain ⟨g', o', he, hcl⟩ := HC.out i hlt
      injection he with he
      injection he with e1 e2
      subst e1 e2
      obtain ⟨hg, a0, a1, a2, a3⟩ := hcl wr HI.out.2
      have HT1 : Hid (∀ X, Below w.heap.size w X → _) := Lib.hid fun X hX => (HTX.out i X hX).2.1
      have HT3 : Hid (∀ X, Below w.heap.size w X → _) := Lib.hid fun X hX => (HTX.out i X hX).2.2
      have HWD := Lib.hid (fun X => word_any (l.getD i zE).2.2.1 X)
      have HL := Lib.hid (HLN.out i)
      have hw2 := wordK_len (l.getD i zE).2.2.1
      have HTI := Lib.hid (HTS.out i hlt)
      have HLT := Lib.hid (HTL.out i hi)
      generalize l.getD i zE = x at a0 a1 a2 a3 HT1 HT3 HWD HL hw2 HTI
      obtain ⟨x0, x1, x2, x3⟩ := x
      dsimp only at a0 a1 a2 a3 HT1 HT3 HWD HL hw2 HTI
      obtain ⟨hl1, hl3, _⟩ := HL.out
      generalize itoa x1 = t1 at HT1 hl1 HTI
      generalize itoa x3 = t3 at HT3 hl3 HTI
      generalize wordK x2 = wd at HWD hw2 HTI
      obtain ⟨Tj, hTj⟩ : ∃ z, z = T (i + 1) := ⟨_, rfl⟩
      rw [← hTj] at HTI
      have HTJ := Lib.hid hTj
      clear hTj
      generalize T i = Ti at HTI HI HLT
      obtain ⟨wq, hwq⟩ : ∃ X, X = wr.alloc (boxE (x0, x1, x2, x3)) := ⟨_, rfl⟩
      obtain ⟨gx, hgx⟩ : ∃ gx, gx = wr.heap.size := ⟨_, rfl⟩
      have hbx : wq.heap[gx]? = some (boxE (x0, x1, x2, x3)) := by rw [hwq]; exact heap_alloc_at _ _ _ hgx
      have hbq : Below wr.heap.size wr wq := by rw [hwq]; exact alloc_bel wr _
      have HXB : Hid ((wq.drewN 1).heap[gx]? = some (boxE (x0, x1, x2, x3))) := Lib.hid hbx
      have HBD : Hid (Below w.heap.size w (wq.drewN 1)) := Lib.hid (below_drewN (HI.out.2.trans (hbq.mono HI.out.2.size)) 1)
      have HSD : Hid (SbAt w.heap.size w.heap.size Ti (wq.drewN 1)) := Lib.hid (sb_below HI.out.1 (below_drewN hbq 1))
      have HS : Hid (∀ X : World, X.heap[gx]? = some (boxE (x0, x1, x2, x3)) → gx < X.heap.size ∧ X.cell? ⟨gx, 1, none⟩ = some (.int .i64 x1) ∧ X.cell? ⟨gx, 2, none⟩ = some (.int .i64 x2) ∧ X.cell? ⟨gx, 3, none⟩ = some (.int .i64 x3)) := Lib.hid fun X hX => ⟨heap_lt hX, (boxE_at hX).2.1, (boxE_at hX).2.2.1, (boxE_at hX).2.2.2⟩
      have HWS : Hid (∀ (X : World) (s : ByteArray), SbAt w.heap.size w.heap.size Ti X → w.heap.size ≤ X.heap.size → s = (⟨#[32]⟩ : ByteArray) ++ ⟨wd.toArray⟩ ++ ⟨t3.toArray⟩ ++ ⟨#[32]⟩ ++ ⟨t1.toArray⟩ → Calls Tryd.prog 30 #[.pointer (some ⟨w.heap.size, 0, none⟩), .string s] X fun e w' => e = .returned (.tuple #[.int .i64 s.size, .nilIface]) ∧ SbAt w.heap.size w.heap.size Tj w' ∧ Below w.heap.size X w' ∧ KeepE X w') := Lib.hid fun X s hX hz hs => by
        have hsl : s.data.toList = [32] ++ wd ++ t3 ++ [32] ++ t1 := by rw [hs]; simp
        have hsz : s.size ≤ 100 := by
          have : s.size = s.data.toList.length := by simp
          rw [this, hsl]
          simp only [List.length_append, List.length_cons, List.length_nil]
          omega
        refine (string_keep w.heap.size w.heap.size Ti s X hX (by have := HLT.out; omega) hz).mono ?_
        rintro e w' ⟨⟨h1, h2, h3⟩, h4⟩
        rw [hsl, ← HTI.out] at h2
        exact ⟨h1, h2, h3, h4⟩
      have hq1 : ¬ 9223372036854775807 < 1 + wd.length := by omega
      have hq2 : ¬ 9223372036854775807 < 1 + wd.length + t3.length := by omega
      have hq3 : ¬ 9223372036854775807 < 1 + wd.length + t3.length + 1 := by omega
      have hq4 : ¬ 9223372036854775807 < 1 + wd.length + t3.length + 1 + t1.length := by omega
      unfold boxE at hwq
      dsimp only at hwq
      clear hcl hbx hbq HI HL HTI
      go_upto_region 8 with fail
      rw [← hwq]
      clear hwq a0 a1 a2 a3 hg
      rw [← hgx]
      clear hgx
      refine wp_region_held_drew (S := fun X => gx < X.heap.size ∧ X.cell? ⟨gx, 1, none⟩ = some (.int .i64 x1) ∧ X.cell? ⟨gx, 2, none⟩ = some (.int .i64 x2) ∧ X.cell? ⟨gx, 3, none⟩ = some (.int .i64 x3)) (by kernel_rfl) (HS.out _ HXB.out) (fun hHeld0 => ?_)
      refine wpAnyH_take (i := 0) (v := ?_) rfl (by kernel_rfl) (by kernel_rfl) (by kernel_rfl) (fun _ _ _ h => h) (Or.inl ⟨by rfl, ?ytx0⟩) (by assumption) ?qtx0
      case ytx0 => (intro wz hSw; (try dsimp only at hSw); go_simp <;> with_reducible rfl)
      try simp only [Act.put, List.getElem_toArray, List.getElem_cons_zero, List.setIfInBounds_toArray, List.set_cons_zero, List.set_cons_succ]
      refine wpAnyH_take (i := 1) (v := ?_) rfl (by kernel_rfl) (by kernel_rfl) (by kernel_rfl) (fun _ _ _ h => h) (Or.inl ⟨by rfl, ?ytx1⟩) (by assumption) ?qtx1
      case ytx1 => (intro wz hSw; (try dsimp only at hSw); go_simp <;> with_reducible rfl)
      try simp only [Act.put, List.getElem_toArray, List.getElem_cons_zero, List.getElem_cons_succ, List.setIfInBounds_toArray, List.set_cons_zero, List.set_cons_succ]
      refine wpAnyH_take (i := 4) (v := ?_) rfl (by kernel_rfl) (by kernel_rfl) (by kernel_rfl) (fun _ _ _ h => h) (Or.inl ⟨by rfl, ?ytx4⟩) (by assumption) ?qtx4
      case ytx4 => (intro wz hSw; (try dsimp only at hSw); go_simp <;> with_reducible rfl)
      try simp only [Act.put, List.getElem_toArray, List.getElem_cons_zero, List.getElem_cons_succ, List.setIfInBounds_toArray, List.set_cons_zero, List.set_cons_succ]
      refine wpAnyH_take (i := 5) (v := ?_) rfl (by kernel_rfl) (by kernel_rfl) (by kernel_rfl) (fun _ _ _ h => h) (Or.inl ⟨by rfl, ?ytx5⟩) (by assumption) ?qtx5
      case ytx5 => (intro wz hSw; (try dsimp only at hSw); go_simp <;> with_reducible rfl)
      try simp only [Act.put, List.getElem_toArray, List.getElem_cons_zero, List.getElem_cons_succ, List.setIfInBounds_toArray, List.set_cons_zero, List.set_cons_succ]
      refine wpAnyH_take (i := 9) (v := ?_) rfl (by kernel_rfl) (by kernel_rfl) (by kernel_rfl) (fun _ _ _ h => h) (Or.inl ⟨by rfl, ?ytx9⟩) (by assumption) ?qtx9
      case ytx9 => (intro wz hSw; (try dsimp only at hSw); go_simp <;> with_reducible rfl)
      try simp only [Act.put, List.getElem_toArray, List.getElem_cons_zero, List.getElem_cons_succ, List.setIfInBounds_toArray, List.set_cons_zero, List.set_cons_succ]
      refine wpAnyH_take (i := 10) (v := ?_) rfl (by kernel_rfl) (by kernel_rfl) (by kernel_rfl) (fun _ _ _ h => h) (Or.inl ⟨by rfl, ?ytx10⟩) (by assumption) ?qtx10
      case ytx10 => (intro wz hSw; (try dsimp only at hSw); go_simp <;> with_reducible rfl)
      try simp only [Act.put, List.getElem_toArray, List.getElem_cons_zero, List.getElem_cons_succ, List.setIfInBounds_toArray, List.set_cons_zero, List.set_cons_succ]
      refine wpAnyH_ready (rs := [2]) (by kernel_rfl) (by simp) ?_
      refine AllReadyH.cons rfl (fun K hK => ?_) AllReadyH.nil
      go_simp
      refine (HWD.out _).mono ?_
      rintro e w5 ⟨rfl, rfl⟩
      refine hK.out _ _ (HS.out _ HXB.out) (fun hHeldtx2 => ?_)
      clear hK K
      try simp only [Act.put, List.getElem_toArray, List.getElem_cons_zero, List.getElem_cons_succ, List.setIfInBounds_toArray, List.set_cons_zero, List.set_cons_succ]
      refine wpAnyH_take (i := 3) (v := ?_) rfl (by kernel_rfl) (by kernel_rfl) (by kernel_rfl) (fun _ _ _ h => h) (Or.inl ⟨by rfl, ?ytx3⟩) (by assumption) ?qtx3
      case ytx3 => (intro wz hSw; (try dsimp only at hSw); go_simp <;> with_reducible rfl)
      try simp only [Act.put, List.getElem_toArray, List.getElem_cons_zero, List.getElem_cons_succ, List.setIfInBounds_toArray, List.set_cons_zero, List.set_cons_succ]
      refine wpAnyH_ready (rs := [6]) (by kernel_rfl) (by simp) ?_
      refine AllReadyH.cons rfl (fun K hK => ?_) AllReadyH.nil
      go_simp
      refine (HT3.out _ HBD.out).mono ?_
      rintro e w6 ⟨rfl, hb6⟩
      have HB6 : Hid (Below w.heap.size w w6 ∧ SbAt w.heap.size w.heap.size Ti w6 ∧ w6.heap[gx]? = some (boxE (x0, x1, x2, x3))) := Lib.hid ⟨HBD.out.trans (hb6.mono HBD.out.size), sb_below HSD.out hb6, keep_block hb6 HXB.out⟩
      clear hb6
      refine hK.out _ _ (HS.out _ HB6.out.2.2) (fun hHeldtx6 => ?_)
      clear hK K
      try simp only [Act.put, List.getElem_toArray, List.getElem_cons_zero, List.getElem_cons_succ, List.setIfInBounds_toArray, List.set_cons_zero, List.set_cons_succ]
      refine wpAnyH_take (i := 7) (v := ?_) rfl (by kernel_rfl) (by kernel_rfl) (by kernel_rfl) (fun _ _ _ h => h) (Or.inl ⟨by rfl, ?ytx7⟩) (by assumption) ?qtx7
      case ytx7 => (intro wz hSw; (try dsimp only at hSw); go_simp <;> with_reducible rfl)
      try simp only [Act.put, List.getElem_toArray, List.getElem_cons_zero, List.getElem_cons_succ, List.setIfInBounds_toArray, List.set_cons_zero, List.set_cons_succ]
      refine wpAnyH_take (i := 8) (v := ?_) rfl (by kernel_rfl) (by kernel_rfl) (by kernel_rfl) (fun _ _ _ h => h) (Or.inl ⟨by rfl, ?ytx8⟩) (by assumption) ?qtx8
      case ytx8 => (intro wz hSw; (try dsimp only at hSw); go_simp <;> with_reducible rfl)
      try simp only [Act.put, List.getElem_toArray, List.getElem_cons_zero, List.getElem_cons_succ, List.setIfInBounds_toArray, List.set_cons_zero, List.set_cons_succ]
      refine wpAnyH_ready (rs := [11]) (by kernel_rfl) (by simp) ?_
      refine AllReadyH.cons rfl (fun K hK => ?_) AllReadyH.nil
      go_simp
      refine (HT1.out _ HB6.out.1).mono ?_
      rintro e w7 ⟨rfl, hb7⟩
      have HB7 : Hid (Below w.heap.size w w7 ∧ SbAt w.heap.size w.heap.size Ti w7 ∧ w7.heap[gx]? = some (boxE (x0, x1, x2, x3))) := Lib.hid ⟨HB6.out.1.trans (hb7.mono HB6.out.1.size), sb_below HB6.out.2.1 hb7, keep_block hb7 HB6.out.2.2⟩
      clear hb7
      refine hK.out _ _ (HS.out _ HB7.out.2.2) (fun hHeldtx11 => ?_)
      clear hK K
      try simp only [Act.put, List.getElem_toArray, List.getElem_cons_zero, List.getElem_cons_succ, List.setIfInBounds_toArray, List.set_cons_zero, List.set_cons_succ]
      refine wpAnyH_take (i := 12) (v := ?_) rfl (by kernel_rfl) (by kernel_rfl) (by kernel_rfl) (fun _ _ _ h => h) (Or.inl ⟨by rfl, ?ytx12⟩) (by assumption) ?qtx12
      case ytx12 => (intro wz hSw; (try dsimp only at hSw); go_simp <;> with_reducible rfl)
      try simp only [Act.put, List.getElem_toArray, List.getElem_cons_zero, List.getElem_cons_succ, List.setIfInBounds_toArray, List.set_cons_zero, List.set_cons_succ]
      refine wpAnyH_ready (rs := [13]) (by kernel_rfl) (by simp) ?_
      refine AllReadyH.cons rfl (fun K hK => ?_) AllReadyH.nil
      go_simp
      refine (HWS.out _ _ HB7.out.2.1 HB7.out.1.size rfl).mono ?_
      rintro e w8 ⟨rfl, hsb8, hb8, hk8⟩
      have HB8 : Hid (Below w.heap.size w w8 ∧ SbAt w.heap.size w.heap.size Tj w8 ∧ w8.heap[gx]? = some (boxE (x0, x1, x2, x3))) := Lib.hid ⟨HB7.out.1.trans hb8, hsb8, hk8 _ _ HB7.out.2.2⟩
      clear hsb8 hb8 hk8
      refine hK.out _ _ (HS.out _ HB8.out.2.2) (fun hHeldtx13 => ?_)
      clear hK K
      try simp only [Act.put, List.getElem_toArray, List.getElem_cons_zero, List.getElem_cons_succ, List.setIfInBounds_toArray, List.set_cons_zero, List.set_cons_succ]
      refine wpAnyH_done (by kernel_rfl) ?_ _
      have HN : Hid (SbAt w.heap.size w.heap.size Tj w8 ∧ Below w.heap.size w w8) := Lib.hid ⟨HB8.out.2.1, HB8.out.1⟩
      clear hHeldtx13 hHeldtx11 hHeldtx6 hHeldtx2 hHeld0 HS HWS HT1 HT3 HWD hq1 hq2 hq3 hq4 hl1 hl3 hw2
      rw [HTJ.out] at HN
      go_wp2_with fail
      go_roundw
      case rel => exact ⟨i + 1, by go_num, by omega, HN⟩
      case measure => simp [intOf]; omega
    · have hin : i = n := by omega
      subst hin
      have HST := Lib.hid (Tryd.Builder_String_any w.heap.size w.heap.size (T i) wr HI.out.1 HI.out.2.size)
      have HB := Lib.hid HI.out.2
      rw [HTE.out] at HST
      have hii : ¬ (i : Int) < (i : Int) := by omega
      clear HI hlt
      go_wp2_with fail
      refine HST.out.mono ?_
      rintro e w4 ⟨rfl, hb4⟩
      have HF2 : Hid (Below w.heap.size w w4) := Lib.hid (HB.out.trans hb4)
      clear hb4
      go_wp2
      go_ret
      exact ⟨rfl, HF2.out⟩
end Go.Proofs.YtjknnbeemcpppaaDoor.Wk
