/-
  Contract of offend's writtenOf. Not a statement of the seat.
-/
import Derived.Test.YtiiipnfkkdfgbaaHead16
import Derived.Test.YtiiipnfkkdfgbaaHead6
namespace Go.Proofs.Ytiiipnfkkdfgbaa.Off
open Go.ChangeShapes Go.WideShapes Go.ChangeAt Go.RowKit Base F Tx Hi Go.Sort
set_option maxRecDepth 100000 in
set_option maxHeartbeats 8000000 in
theorem writtenOf_any {v u : Value} {h : Hist} (w : World) (hh : HistV w v u h) (hok : ∀ t ∈ h.txs, Txn.ok t) (hx : h.txs.length ≤ 4096) (hl : ∀ t ∈ h.txs, t.ops.length ≤ 100000) (hp : h.txs.Pairwise (fun a b => a.id < b.id)) : Calls Try.prog 62 #[.agg #[v, u]] w (WtP h.txs w) := by
  have hmm := @run_makeMap Try.prog
  obtain ⟨xs, os⟩ := h
  obtain ⟨h1, h2⟩ := hh
  simp only at h1 h2 hok hx hl hp ⊢
  obtain ⟨p, c, rfl, _, hlm⟩ := h1.form
  have HT := Lib.hid h1
  have HOK := Lib.hid hok
  have HL := Lib.hid hl
  have HX := Lib.hid hx
  have HPW := Lib.hid hp
  have HS0 : Hid (∀ W, W = ((((w.alloc (boxH (.slice p xs.length c) u)).alloc (.cells #[.map none, .map none] 108)).alloc (.map #[] 0)).alloc (.map #[] 0)).alloc (boxWr (w.heap.size + 2) (w.heap.size + 3)) → WN w W xs 0) := Lib.hid fun W hW => by
    subst hW
    refine ⟨0, 0, Nat.le_refl _, by omega, (Mp.MB.made (heap_alloc_lt _ _ _ _ (heap_alloc_lt _ _ _ _ (heap_alloc_at _ _ _ (by simp))))).ext fun x => by simp [doneF, findT], (Mp.MI.made (heap_alloc_lt _ _ _ _ (heap_alloc_at _ _ _ (by simp)))).ext fun q => by simp [cntW], ((((Aft.one _).lay _).lay _).lay _).lay _, heap_alloc_at _ _ _ (by simp), heap_alloc_lt _ _ _ _ (heap_alloc_lt _ _ _ _ (heap_alloc_lt _ _ _ _ (heap_alloc_at _ _ _ (by simp))))⟩
  unfold boxH boxWr at HS0
  clear h1 h2 hok hl hx hp
  go_enter Try.func62, Try.ntmps62
  go_wp2_with fail
  clear hmm
  go_loopw [14] (fun s14 wr => ∃ k : Nat, s14 = .int .i64 (k : Int) ∧ k ≤ xs.length ∧ Hid (WN w wr xs k)) (fun s14 _ => xs.length - (intOf s14).toNat)
  case atStart => exact ⟨0, rfl, Nat.zero_le _, Lib.hid (HS0.out _ rfl)⟩
  case round =>
    clear HS0
    obtain ⟨k, rfl, hk, HS⟩ := hrel
    obtain ⟨wA, hwA⟩ : ∃ wA, wA = wr := ⟨_, rfl⟩
    subst hwA
    by_cases hlt : k < xs.length
    · have HA : Hid (Aft w wA ∧ wA.heap[w.heap.size + 4]? = some (boxWr (w.heap.size + 2) (w.heap.size + 3))) := Lib.hid (by obtain ⟨_, _, _, _, _, _, h, h', _⟩ := HS.out; exact ⟨h, h'⟩)
      obtain ⟨g, o, sp, sc, rfl, hg, c0, c1, c2, hs⟩ := HT.out.at_ hlt
      have c0 := HA.out.1.cell hg c0
      have c1 := HA.out.1.cell hg c1
      have c2 := HA.out.1.cell hg c2
      have hg := Nat.lt_of_lt_of_le hg HA.out.1.size
      have HTK := Lib.hid (fun t k' => cnt_take xs k hlt t k')
      have HDT := Lib.hid (fun id => done_take HPW.out hlt id)
      have HLK := Lib.hid (HL.out _ (getD_mem hlt))
      have HOKK := Lib.hid (HOK.out _ (getD_mem hlt))
      have HCB : Hid (∀ t k', cntW (xs.take k) t k' ≤ 100000 * 4096) := Lib.hid fun t k' => Nat.le_trans (cnt_bd (xs.take k) t k' fun x hx => HL.out x (List.mem_of_mem_take hx)) (Nat.mul_le_mul_left _ (by rw [List.length_take]; have := HX.out; omega))
      have hk4 : k ≤ 4096 := by have := HX.out; omega
      have hkI : (k : Int) < (xs.length : Int) := by omega
      generalize xs.getD k Txn.zero = t at c0 c1 c2 hs HTK HLK HOKK HDT
      obtain ⟨ti, td, tl⟩ := t
      simp only at c0 c1 c2 hs HTK HLK HOKK HDT
      have HOP : Hid (∀ X, Aft w X → Oprs 0 X (.slice sp tl.length sc) tl) := Lib.hid fun X hX => (hs.below hX).2
      have hti : -9223372036854775808 ≤ ti ∧ ti ≤ 9223372036854775807 := HOKK.out.1
      have HTI := Lib.hid hti
      have HOKO : Hid (∀ x ∈ tl, Opr.ok x) := Lib.hid HOKK.out.2
      have hln : tl.length ≤ 100000 := HLK.out
      have HKI := Lib.hid (Mp.key_int (P := Try.prog) (k := 3) Try.underlying3 hti)
      have HBL : Hid (w.heap.size + 4 < wA.heap.size) := Lib.hid (heap_lt HA.out.2)
      clear hs HT HOK HL HLK HOKK HX HPW hti
      have HI0 : Hid (∃ n1, n1 < maxLen ∧ MD (wA.alloc (boxT ti td (.slice sp tl.length sc))) (w.heap.size + 2) n1 (doneF (xs.take k)) ∧ n1 ≤ k) := Lib.hid (by
        obtain ⟨n1, n2, h1, h2, h3, h4, h5, h6, h7⟩ := HS.out
        exact ⟨n1, by simp only [maxLen]; omega, h3.lay rfl _, h1⟩)
      have HI1 : Hid (∀ W n1, n1 ≤ k → (wA.alloc (boxT ti td (.slice sp tl.length sc))).grownBy W (some (w.heap.size + 2)) → MD W (w.heap.size + 2) (n1 + 1) (doneF (xs.take (k + 1))) → WJ w wA W xs k 0 ti (fun q => ((cntW (xs.take k) q.1 q.2 + (if ti = q.1 then wrN (tl.take 0) q.2 else 0) : Nat) : Int)) (doneF (xs.take (k + 1))) (boxT ti td (.slice sp tl.length sc))) := Lib.hid fun W n1 hn1 hg hm => by
        obtain ⟨_, n2, _, h2, _, h4, h5, h6, h7⟩ := HS.out
        have key : ∀ (g : Nat) (ob : Obj), (wA.alloc (boxT ti td (.slice sp tl.length sc))).heap[g]? = some ob → g ≠ w.heap.size + 2 → W.heap[g]? = some ob := fun g ob ho hne => (hg.block _ (heap_lt ho) (fun e => by injection e with e; exact hne e)).trans ho
        exact ⟨n1 + 1, n2, by omega, by omega, hm, ((h4.lay rfl _).kept hg (fun e => by injection e with e; omega)).ext fun q => by simp [wrN], Below.grown (h5.lay _) hg (h5.lay _).size (fun q hq => by injection hq with hq; omega), key _ _ (heap_alloc_lt _ _ _ _ h6) (by omega), key _ _ (heap_alloc_lt _ _ _ _ h7) (by omega), key _ _ (heap_alloc_at _ _ _ rfl) (by have := HBL.out; omega)⟩
      obtain ⟨e0, e1⟩ := cellsWr HA.out.2
      have hbl := HBL.out
      obtain ⟨n1, hn1, hmd, hnk⟩ := HI0.out
      have HMD := Lib.hid hmd
      have HD1 : Hid (∀ z : Int, Value.int .i64 z = Value.int .i64 ti → doneF (xs.take (k + 1)) z = td) := Lib.hid fun z e => by rw [HDT.out, if_pos (Mp.int_inj e)]
      have HD2 : Hid (∀ z : Int, Value.int .i64 z ≠ Value.int .i64 ti → doneF (xs.take (k + 1)) z = doneF (xs.take k) z) := Lib.hid fun z e => by rw [HDT.out, if_neg (fun e2 => e (by rw [e2]))]
      have HNK := Lib.hid hnk
      clear HS HI0 hmd hnk HDT
      generalize hbx : boxT ti td (.slice sp tl.length sc) = bx at HI1
      have HBC : Hid (∀ W : World, W.heap[wA.heap.size]? = some bx → W.cell? ⟨wA.heap.size, 0, none⟩ = some (.int .i64 ti) ∧ W.cell? ⟨wA.heap.size, 1, none⟩ = some (.bool td) ∧ W.cell? ⟨wA.heap.size, 2, none⟩ = some (.slice sp tl.length sc)) := Lib.hid fun W hW => by
        rw [← hbx] at hW
        exact (cellsT hW).2.1
      have HBX := Lib.hid hbx
      clear hbx
      unfold boxT at HMD
      obtain ⟨tn, htn⟩ : ∃ n, n = tl.length := ⟨_, rfl⟩
      rw [← htn] at c2 HMD HBC hln HOP HBX
      have HTN := Lib.hid htn
      clear htn
      go_wp2_with (at_mapUpdate; refine Mp.wp_store keyedI Try.underlying106 Try.underlying4 rfl (.tmp 19) (.tmp 21) (.tmp 23) rfl HMD.out hn1 rfl ti rfl HKI.out td rfl (doneF (xs.take (k + 1))) HD1.out HD2.out ?_; intro w2 h2 hg2; have HJ0 := Lib.hid (HI1.out w2 n1 HNK.out (by rw [← HBX.out]; exact hg2) h2); obtain ⟨f0, f1, f2⟩ := HBC.out w2 (by obtain ⟨_, _, _, _, _, _, _, _, _, h⟩ := HJ0.out; exact h); have hb2 : wA.heap.size < w2.heap.size := (by obtain ⟨_, _, _, _, _, _, _, _, _, h⟩ := HJ0.out; exact heap_lt h); clear h2 hg2)
      clear HI1 HMD HD1 HD2 HNK HKI f0 f1 f2
      go_loopw [27] (fun s27 wr => ∃ j : Nat, s27 = .int .i64 (j : Int) ∧ j ≤ tn ∧ Hid (WJ w wA wr xs k j ti (fun q => ((cntW (xs.take k) q.1 q.2 + (if ti = q.1 then wrN (tl.take j) q.2 else 0) : Nat) : Int)) (doneF (xs.take (k + 1))) bx)) (fun s27 _ => tn - (intOf s27).toNat)
      case atStart => exact ⟨0, rfl, Nat.zero_le _, HJ0⟩
      case round =>
        clear HJ0
        obtain ⟨j, rfl, hj, HS⟩ := hrel
        by_cases hlt2 : j < tn
        · have hltl : j < tl.length := by rw [← HTN.out]; exact hlt2
          have HA2 : Hid (Aft w wr) := Lib.hid (by obtain ⟨_, _, _, _, _, _, h, _⟩ := HS.out; exact h)
          have HSZ : Hid (wA.heap.size < wr.heap.size) := Lib.hid (by obtain ⟨_, _, _, _, _, _, _, _, _, h⟩ := HS.out; exact heap_lt h)
          obtain ⟨p', c', e, _, hc⟩ := (HOP.out _ HA2.out).open_
          injection e with e1 e2 e3
          subst e1 e3
          clear e2
          obtain ⟨g2, o2, rfl, _, hg2, d0, d1, d2, d3⟩ := hc j hltl
          clear hc
          have HSN := Lib.hid (fun key => wrN_take tl j hltl key)
          have HOJ := Lib.hid (HOKO.out _ (getD_memO hltl))
          have hjI : (j : Int) < (tn : Int) := by omega
          generalize tl.getD j Opr.zero = x at d0 d1 d2 d3 HSN HOJ
          obtain ⟨xr, xk, xt, xn⟩ := x
          dsimp only at d0 d1 d2 d3
          cases xr with
          | true =>
            have HR : Hid (WJ w wA (wr.alloc (boxO ⟨true, xk, xt, xn⟩)) xs k (j + 1) ti (fun q => ((cntW (xs.take k) q.1 q.2 + (if ti = q.1 then wrN (tl.take (j + 1)) q.2 else 0) : Nat) : Int)) (doneF (xs.take (k + 1))) bx) := Lib.hid (by
              obtain ⟨n1, n2, h1, h2, h3, h4, h5⟩ := HS.out.lay (boxO ⟨true, xk, xt, xn⟩)
              exact ⟨n1, n2, h1, by omega, h3, h4.ext fun q => by rw [HSN.out]; simp, h5⟩)
            clear HS HSN
            unfold boxO at HR
            go_wp2_with fail
            go_roundw
            case rel => exact ⟨j + 1, by go_num, by omega, HR⟩
            case measure => simp [intOf]; omega
          | false =>
            obtain ⟨X, hX⟩ : ∃ X, X = wr.alloc (boxO ⟨false, xk, xt, xn⟩) := ⟨_, rfl⟩
            obtain ⟨b7, hb7⟩ : ∃ b, b = wr.heap.size := ⟨_, rfl⟩
            obtain ⟨m, hm⟩ : ∃ m : Nat, m = cntW (xs.take k) ti xk + wrN (tl.take j) xk := ⟨_, rfl⟩
            have hmb : m ≤ 100000 * 4096 + 100000 := by
              have h1 := HCB.out ti xk
              have h2 := wrN_le (tl.take j) xk
              have h3 : (tl.take j).length ≤ 100000 := by rw [List.length_take]; omega
              omega
            have HSN2 := Lib.hid (bump_f (cntW (xs.take k)) (wrN (tl.take j)) (wrN (tl.take (j + 1))) ti xk (fun key => by rw [HSN.out]; simp))
            obtain ⟨F0, hF0⟩ : ∃ F : Int × Int → Int, F = fun q => ((cntW (xs.take k) q.1 q.2 + (if ti = q.1 then wrN (tl.take j) q.2 else 0) : Nat) : Int) := ⟨_, rfl⟩
            obtain ⟨F1, hF1⟩ : ∃ F : Int × Int → Int, F = fun q => ((cntW (xs.take k) q.1 q.2 + (if ti = q.1 then wrN (tl.take (j + 1)) q.2 else 0) : Nat) : Int) := ⟨_, rfl⟩
            have HFS : Hid (F0 (ti, xk) = (m : Int) ∧ F1 (ti, xk) = (m : Int) + 1 ∧ ∀ q, q ≠ (ti, xk) → F1 q = F0 q) := Lib.hid ⟨by rw [hF0, hm]; exact HSN2.out.2.2, by rw [hF1, hm]; exact HSN2.out.2.1, fun q hq => by rw [hF0, hF1]; exact HSN2.out.1 q hq⟩
            have HK : Hid (-9223372036854775808 ≤ xk ∧ xk ≤ 9223372036854775807) := Lib.hid HOJ.out.1
            have HBU : Hid (∀ W n, n ≤ 100000 * k + j → MA W (w.heap.size + 3) n F0 → BumpA W (w.heap.size + 3) n F0 F1 ti xk (m : Int)) := Lib.hid fun W n hn h => ma_bump h (by simp only [maxLen]; omega) HTI.out HK.out ⟨by omega, by omega⟩ HFS.out.1 HFS.out.2.1 HFS.out.2.2
            have HF1 := Lib.hid hF1
            have HXS : Hid (WJ w wA X xs k j ti F0 (doneF (xs.take (k + 1))) bx ∧ X.heap[b7]? = some (boxO ⟨false, xk, xt, xn⟩)) := Lib.hid ⟨by rw [hX, hF0]; exact HS.out.lay _, by rw [hX, hb7]; exact heap_alloc_at _ _ _ rfl⟩
            have HB7 : Hid (w.heap.size + 4 < b7) := Lib.hid (by rw [hb7]; have := HSZ.out; have := HBL.out; omega)
            have hw : IntKind.i64.wrap ((m : Int) + 1) = (m : Int) + 1 := by rw [IntKind.wrap_i64] <;> omega
            clear HS HSN HSN2 HCB hm hmb HOJ HK hln hk4 hF0 hF1 HFS
            have hwAr := HSZ.out
            unfold boxO at hX
            go_upto_region 10 with fail
            rw [← hX, ← hb7]
            clear hX hb7
            have HD : Hid (WJ w wA X.drew xs k j ti F0 (doneF (xs.take (k + 1))) bx ∧ X.drew.heap[b7]? = some (boxO ⟨false, xk, xt, xn⟩)) := Lib.hid ⟨HXS.out.1.drew, HXS.out.2⟩
            have HCE : Hid (∀ Z F' j', WJ w wA Z xs k j' ti F' (doneF (xs.take (k + 1))) bx → Z.heap[b7]? = some (boxO ⟨false, xk, xt, xn⟩) → Z.cell? ⟨w.heap.size + 4, 1, none⟩ = some (.map (some (w.heap.size + 3))) ∧ Z.cell? ⟨wA.heap.size, 0, none⟩ = some (.int .i64 ti) ∧ Z.cell? ⟨b7, 1, none⟩ = some (.int .i64 xk)) := Lib.hid fun Z F' j' hz h7 => by
              obtain ⟨_, _, _, _, _, _, _, h6, _, h8⟩ := hz
              exact ⟨(cellsWr h6).2, (HBC.out Z h8).1, (cellsO h7).2.1.2.1⟩
            clear HXS
            refine wp_region_held_drew (S := fun Z => Z.cell? ⟨w.heap.size + 4, 1, none⟩ = some (.map (some (w.heap.size + 3))) ∧ Z.cell? ⟨wA.heap.size, 0, none⟩ = some (.int .i64 ti) ∧ Z.cell? ⟨b7, 1, none⟩ = some (.int .i64 xk)) (by kernel_rfl) (HCE.out _ _ _ HD.out.1 HD.out.2) (fun hHeld0 => ?_)
            generalize X.drew = XD at HD hHeld0 ⊢
            refine wpAnyH_take (i := 0) (v := ?_) rfl (by kernel_rfl) (by kernel_rfl) (by kernel_rfl) (fun _ _ _ h => h) (Or.inl ⟨by rfl, ?yr0⟩) (by assumption) ?qr0
            case yr0 => (intro wz hSw; (try dsimp only at hSw); go_simp <;> with_reducible rfl)
            try simp only [Act.put, List.getElem_toArray, List.getElem_cons_zero, List.setIfInBounds_toArray, List.set_cons_zero, List.set_cons_succ]
            refine wpAnyH_take (i := 1) (v := ?_) rfl (by kernel_rfl) (by kernel_rfl) (by kernel_rfl) (fun _ _ _ h => h) (Or.inl ⟨by rfl, ?yr1⟩) (by assumption) ?qr1
            case yr1 => (intro wz hSw; (try dsimp only at hSw); go_simp <;> with_reducible rfl)
            try simp only [Act.put, List.getElem_toArray, List.getElem_cons_zero, List.getElem_cons_succ, List.setIfInBounds_toArray, List.set_cons_zero, List.set_cons_succ]
            refine wpAnyH_take (i := 2) (v := ?_) rfl (by kernel_rfl) (by kernel_rfl) (by kernel_rfl) (fun _ _ _ h => h) (Or.inl ⟨by rfl, ?yr2⟩) (by assumption) ?qr2
            case yr2 => (intro wz hSw; (try dsimp only at hSw); go_simp <;> with_reducible rfl)
            try simp only [Act.put, List.getElem_toArray, List.getElem_cons_zero, List.getElem_cons_succ, List.setIfInBounds_toArray, List.set_cons_zero, List.set_cons_succ]
            refine wpAnyH_take (i := 3) (v := ?_) rfl (by kernel_rfl) (by kernel_rfl) (by kernel_rfl) (fun _ _ _ h => h) (Or.inl ⟨by rfl, ?yr3⟩) (by assumption) ?qr3
            case yr3 => (intro wz hSw; (try dsimp only at hSw); go_simp <;> with_reducible rfl)
            try simp only [Act.put, List.getElem_toArray, List.getElem_cons_zero, List.getElem_cons_succ, List.setIfInBounds_toArray, List.set_cons_zero, List.set_cons_succ]
            refine wpAnyH_take (i := 4) (v := ?_) rfl (by kernel_rfl) (by kernel_rfl) (by kernel_rfl) (fun _ _ _ h => h) (Or.inl ⟨by rfl, ?yr4⟩) (by assumption) ?qr4
            case yr4 => (intro wz hSw; (try dsimp only at hSw); go_simp <;> with_reducible rfl)
            try simp only [Act.put, List.getElem_toArray, List.getElem_cons_zero, List.getElem_cons_succ, List.setIfInBounds_toArray, List.set_cons_zero, List.set_cons_succ]
            refine wpAnyH_take (i := 5) (v := ?_) rfl (by kernel_rfl) (by kernel_rfl) (by kernel_rfl) (fun _ _ _ h => h) (Or.inl ⟨by rfl, ?yr5⟩) (by assumption) ?qr5
            case yr5 => (intro wz hSw; (try dsimp only at hSw); go_simp <;> with_reducible rfl)
            try simp only [Act.put, List.getElem_toArray, List.getElem_cons_zero, List.getElem_cons_succ, List.setIfInBounds_toArray, List.set_cons_zero, List.set_cons_succ]
            refine wpAnyH_take (i := 6) (v := ?_) rfl (by kernel_rfl) (by kernel_rfl) (by kernel_rfl) (fun _ _ _ h => h) (Or.inl ⟨by rfl, ?yr6⟩) (by assumption) ?qr6
            case yr6 => (intro wz hSw; (try dsimp only at hSw); go_simp <;> with_reducible rfl)
            try simp only [Act.put, List.getElem_toArray, List.getElem_cons_zero, List.getElem_cons_succ, List.setIfInBounds_toArray, List.set_cons_zero, List.set_cons_succ]
            refine wpAnyH_ready (rs := [7, 9]) (by kernel_rfl) (by simp) ?_
            refine AllReadyH.cons rfl (fun K hK => ?ordA) ?restA
            case ordA =>
              refine step_lookup rfl (.tmp 35) (.tmp 40) rfl (b := w.heap.size + 3) (key := .agg #[.int .i64 ti, .int .i64 xk]) (by simp [Act.eval]) (by simp [Act.eval]) (by obtain ⟨_, n, _, h2, _, h4, _⟩ := HD.out.1; exact (HBU.out _ _ h2 h4).1) ?_
              refine hK.out _ _ hHeld0 (fun hHeldL => ?_)
              clear hK K
              try simp only [Act.put, List.getElem_toArray, List.getElem_cons_zero, List.getElem_cons_succ, List.setIfInBounds_toArray, List.set_cons_zero, List.set_cons_succ]
              refine wpAnyH_take (i := 8) (v := ?_) rfl (by kernel_rfl) (by kernel_rfl) (by kernel_rfl) (fun _ _ _ h => h) (Or.inl ⟨by rfl, ?ya8⟩) (by assumption) ?qa8
              case ya8 => (intro wz hSw; (try dsimp only at hSw); go_simp <;> with_reducible rfl)
              try simp only [Act.put, List.getElem_toArray, List.getElem_cons_zero, List.getElem_cons_succ, List.setIfInBounds_toArray, List.set_cons_zero, List.set_cons_succ]
              clear hHeldL
              refine wpAnyH_ready (rs := [9]) (by kernel_rfl) (by simp) ?_
              refine AllReadyH.cons rfl (fun K hK => ?_) AllReadyH.nil
              obtain ⟨n, hn, hma⟩ : ∃ n, n ≤ 100000 * k + j ∧ MA XD (w.heap.size + 3) n F0 := by obtain ⟨_, n, _, h2, _, h4, _⟩ := HD.out.1; exact ⟨n, h2, h4⟩
              obtain ⟨_, st, w1, r1, r3, r2, w3, r4, r5, r6⟩ := HBU.out _ _ hn hma
              have HO1 : Hid (w1.heap[b7]? = some (boxO ⟨false, xk, xt, xn⟩)) := Lib.hid ((r3.block _ (heap_lt HD.out.2) (fun e => by injection e with e; have := HB7.out; omega)).trans HD.out.2)
              have HO3 : Hid (w3.heap[b7]? = some (boxO ⟨false, xk, xt, xn⟩)) := Lib.hid ((r6.block _ (heap_lt HO1.out) (fun e => by injection e with e; have := HB7.out; omega)).trans HO1.out)
              have HG3 := Lib.hid (WJ.turn HD.out.1 HBL.out (World.grownBy.trans r3 r6) r5 (show n + 1 ≤ 100000 * k + (j + 1) by omega))
              have HC1 : Hid (w1.cell? ⟨w.heap.size + 4, 1, none⟩ = some (.map (some (w.heap.size + 3))) ∧ w1.cell? ⟨wA.heap.size, 0, none⟩ = some (.int .i64 ti) ∧ w1.cell? ⟨b7, 1, none⟩ = some (.int .i64 xk)) := Lib.hid (by
                have key : ∀ (g : Nat) (ob : Obj), XD.heap[g]? = some ob → g ≠ w.heap.size + 3 → w1.heap[g]? = some ob := fun g ob ho hne => (r3.block _ (heap_lt ho) (fun e => by injection e with e; exact hne e)).trans ho
                obtain ⟨_, _, _, _, _, _, _, h6, _, h8⟩ := HD.out.1
                exact ⟨(cellsWr (key _ _ h6 (by omega))).2, (HBC.out w1 (key _ _ h8 (by have := HBL.out; omega))).1, (cellsO HO1.out).2.1.2.1⟩)
              have HC3 := Lib.hid (HCE.out _ _ _ HG3.out HO3.out)
              have HS1 := Lib.hid r2
              have HST : Hid (WJ w wA w3 xs k (j + 1) ti (fun q => ((cntW (xs.take k) q.1 q.2 + (if ti = q.1 then wrN (tl.take (j + 1)) q.2 else 0) : Nat) : Int)) (doneF (xs.take (k + 1))) bx) := Lib.hid (by rw [← HF1.out]; exact HG3.out)
              clear hn hma r2 r3 r5 r6 HD HBU HF1 HG3
              refine Mp.step_entry rfl (.tmp 35) (.tmp 40) rfl (b := w.heap.size + 3) (key := .agg #[.int .i64 ti, .int .i64 xk]) (by simp [Act.eval]) (by simp [Act.eval]) r1 ?_
              clear r1
              refine hK.out _ _ HC1.out (fun hHeldE => ?_)
              clear hK K
              try simp only [Act.put, List.getElem_toArray, List.getElem_cons_zero, List.getElem_cons_succ, List.setIfInBounds_toArray, List.set_cons_zero, List.set_cons_succ]
              refine wpAnyH_take (i := 10) (v := ?_) rfl (by kernel_rfl) (by kernel_rfl) (by kernel_rfl) (fun _ _ _ h => h) (Or.inl ⟨by rfl, ?ya10⟩) (by assumption) ?qa10
              case ya10 => (intro wz hSw; (try dsimp only at hSw); go_simp <;> with_reducible rfl)
              try simp only [Act.put, List.getElem_toArray, List.getElem_cons_zero, List.getElem_cons_succ, List.setIfInBounds_toArray, List.set_cons_zero, List.set_cons_succ]
              refine wpAnyH_ready (rs := [11]) (by kernel_rfl) (by simp) ?_
              refine AllReadyH.cons rfl (fun K hK => ?_) AllReadyH.nil
              refine Mp.step_entryStore rfl (.tmp 35) (.tmp 44) (.tmp 42) rfl (b := w.heap.size + 3) (st := goInt st) (val := .int .i64 ((m : Int) + 1)) (by simp [Act.eval]) (by simp [Act.eval, goInt]) (by simp [Act.eval]) r4 ?_
              clear r4
              refine hK.out _ _ HC3.out (fun hHeldS => ?_)
              clear hK K
              try simp only [Act.put, List.getElem_toArray, List.getElem_cons_zero, List.getElem_cons_succ]
              refine wpAnyH_done (by kernel_rfl) ?_ _
              clear hHeld0 hHeldE hHeldS HC1 HC3 HS1 HCE HO1 HO3
              go_wp2_with fail
              go_roundw
              case rel => exact ⟨j + 1, by go_num, by omega, HST⟩
              case measure => simp [intOf]; omega
            refine AllReadyH.cons rfl (fun K hK => ?ordB) AllReadyH.nil
            case ordB =>
              obtain ⟨n, hn, hma⟩ : ∃ n, n ≤ 100000 * k + j ∧ MA XD (w.heap.size + 3) n F0 := by obtain ⟨_, n, _, h2, _, h4, _⟩ := HD.out.1; exact ⟨n, h2, h4⟩
              obtain ⟨_, st, w1, r1, r3, r2, w3, r4, r5, r6⟩ := HBU.out _ _ hn hma
              have HO1 : Hid (w1.heap[b7]? = some (boxO ⟨false, xk, xt, xn⟩)) := Lib.hid ((r3.block _ (heap_lt HD.out.2) (fun e => by injection e with e; have := HB7.out; omega)).trans HD.out.2)
              have HO3 : Hid (w3.heap[b7]? = some (boxO ⟨false, xk, xt, xn⟩)) := Lib.hid ((r6.block _ (heap_lt HO1.out) (fun e => by injection e with e; have := HB7.out; omega)).trans HO1.out)
              have HG3 := Lib.hid (WJ.turn HD.out.1 HBL.out (World.grownBy.trans r3 r6) r5 (show n + 1 ≤ 100000 * k + (j + 1) by omega))
              have HC1 : Hid (w1.cell? ⟨w.heap.size + 4, 1, none⟩ = some (.map (some (w.heap.size + 3))) ∧ w1.cell? ⟨wA.heap.size, 0, none⟩ = some (.int .i64 ti) ∧ w1.cell? ⟨b7, 1, none⟩ = some (.int .i64 xk)) := Lib.hid (by
                have key : ∀ (g : Nat) (ob : Obj), XD.heap[g]? = some ob → g ≠ w.heap.size + 3 → w1.heap[g]? = some ob := fun g ob ho hne => (r3.block _ (heap_lt ho) (fun e => by injection e with e; exact hne e)).trans ho
                obtain ⟨_, _, _, _, _, _, _, h6, _, h8⟩ := HD.out.1
                exact ⟨(cellsWr (key _ _ h6 (by omega))).2, (HBC.out w1 (key _ _ h8 (by have := HBL.out; omega))).1, (cellsO HO1.out).2.1.2.1⟩)
              have HC3 := Lib.hid (HCE.out _ _ _ HG3.out HO3.out)
              have HS1 := Lib.hid r2
              have HST : Hid (WJ w wA w3 xs k (j + 1) ti (fun q => ((cntW (xs.take k) q.1 q.2 + (if ti = q.1 then wrN (tl.take (j + 1)) q.2 else 0) : Nat) : Int)) (doneF (xs.take (k + 1))) bx) := Lib.hid (by rw [← HF1.out]; exact HG3.out)
              clear hn hma r2 r3 r5 r6 HD HBU HF1 HG3
              refine Mp.step_entry rfl (.tmp 35) (.tmp 40) rfl (b := w.heap.size + 3) (key := .agg #[.int .i64 ti, .int .i64 xk]) (by simp [Act.eval]) (by simp [Act.eval]) r1 ?_
              clear r1
              refine hK.out _ _ HC1.out (fun hHeldE => ?_)
              clear hK K
              try simp only [Act.put, List.getElem_toArray, List.getElem_cons_zero, List.getElem_cons_succ, List.setIfInBounds_toArray, List.set_cons_zero, List.set_cons_succ]
              refine wpAnyH_take (i := 10) (v := ?_) rfl (by kernel_rfl) (by kernel_rfl) (by kernel_rfl) (fun _ _ _ h => h) (Or.inl ⟨by rfl, ?yb10⟩) (by assumption) ?qb10
              case yb10 => (intro wz hSw; (try dsimp only at hSw); go_simp <;> with_reducible rfl)
              try simp only [Act.put, List.getElem_toArray, List.getElem_cons_zero, List.getElem_cons_succ, List.setIfInBounds_toArray, List.set_cons_zero, List.set_cons_succ]
              refine wpAnyH_ready (rs := [7]) (by kernel_rfl) (by simp) ?_
              refine AllReadyH.cons rfl (fun K hK => ?_) AllReadyH.nil
              refine step_lookup rfl (.tmp 35) (.tmp 40) rfl (b := w.heap.size + 3) (key := .agg #[.int .i64 ti, .int .i64 xk]) (by simp [Act.eval]) (by simp [Act.eval]) (HS1.out) ?_
              refine hK.out _ _ hHeldE (fun hHeldL => ?_)
              clear hK K
              try simp only [Act.put, List.getElem_toArray, List.getElem_cons_zero, List.getElem_cons_succ, List.setIfInBounds_toArray, List.set_cons_zero, List.set_cons_succ]
              refine wpAnyH_take (i := 8) (v := ?_) rfl (by kernel_rfl) (by kernel_rfl) (by kernel_rfl) (fun _ _ _ h => h) (Or.inl ⟨by rfl, ?yb8⟩) (by assumption) ?qb8
              case yb8 => (intro wz hSw; (try dsimp only at hSw); go_simp <;> with_reducible rfl)
              try simp only [Act.put, List.getElem_toArray, List.getElem_cons_zero, List.getElem_cons_succ, List.setIfInBounds_toArray, List.set_cons_zero, List.set_cons_succ]
              clear hHeldL
              refine wpAnyH_ready (rs := [11]) (by kernel_rfl) (by simp) ?_
              refine AllReadyH.cons rfl (fun K hK => ?_) AllReadyH.nil
              refine Mp.step_entryStore rfl (.tmp 35) (.tmp 44) (.tmp 42) rfl (b := w.heap.size + 3) (st := goInt st) (val := .int .i64 ((m : Int) + 1)) (by simp [Act.eval]) (by simp [Act.eval, goInt]) (by simp [Act.eval]) r4 ?_
              clear r4
              refine hK.out _ _ HC3.out (fun hHeldS => ?_)
              clear hK K
              try simp only [Act.put, List.getElem_toArray, List.getElem_cons_zero, List.getElem_cons_succ]
              refine wpAnyH_done (by kernel_rfl) ?_ _
              clear hHeld0 hHeldE hHeldS HC1 HC3 HS1 HCE HO1 HO3
              go_wp2_with fail
              go_roundw
              case rel => exact ⟨j + 1, by go_num, by omega, HST⟩
              case measure => simp [intOf]; omega
        · have hje : j = tn := by omega
          subst hje
          have HR : Hid (WN w wr xs (k + 1)) := Lib.hid (by
            obtain ⟨n1, n2, h1, h2, h3, h4, h5, h6, h7, _⟩ := HS.out
            exact ⟨n1, n2, h1, by omega, h3, h4.ext fun q => by rw [HTK.out, HTN.out, List.take_length], h5, h6, h7⟩)
          clear HS
          go_wp2_with fail
          go_roundw
          case rel => exact ⟨k + 1, by go_num, hlt, HR⟩
          case measure => simp [intOf]; omega
    · have hke : k = xs.length := by omega
      subst hke
      have HR := Lib.hid HS.out
      obtain ⟨_, _, _, _, _, _, _, hb4, hb1⟩ := HS.out
      obtain ⟨e0, e1⟩ := cellsWr hb4
      have HB1 := Lib.hid hb1
      clear HS HT hlt hk hb4 hb1
      go_wp2_with (refine wpList_store_wr rfl (.tmp 2) (.tmp 47) rfl (w.heap.size + 1) (w.heap.size + 2) (w.heap.size + 3) _ rfl rfl HB1.out rfl ?_; intro w4 hst; have HST := Lib.hid hst; clear hst)
      obtain ⟨r0, r1⟩ := cellsWr HST.out.2.2.2.2.1
      refine bodyPost_ret (v := .agg #[.map (some (w.heap.size + 2)), .map (some (w.heap.size + 3))]) ?_ rfl ?_
      · exact results_cell_row Try.results62 _ _ (w.heap.size + 1) _ _ _ _ rfl HST.out.2.2.2.2.1 Try.underlying108 rfl (by kernel_rfl)
      · obtain ⟨n1, n2, h1, h2, h3, h4, h5, h6, h7⟩ := HR.out
        rw [List.take_length] at h3 h4
        exact ⟨_, _, n1, n2, rfl, h3.heap (HST.out.2.2.2.2.2 _ (by omega)), h4.heap (HST.out.2.2.2.2.2 _ (by omega)), stored_aft h5 (by omega) HST.out⟩
end Go.Proofs.Ytiiipnfkkdfgbaa.Off
