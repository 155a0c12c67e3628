/-
  Contracts of small functions, several texts laid into one. Not a statement of the seat.
-/
import Derived.Test.YtmgkpabagpgilaaHead8
import Derived.Test.YtmgkpabagpgilaaMpE
import Derived.Test.YtmgkpabagpgilaaHead10
import Derived.Test.YtmgkpabagpgilaaOprBox
import Derived.BigQuiet
import Derived.Deep.Cut
import Derived.Deep.CutRange
import Derived.Deep.DeepCutAuto
import Derived.Deep.RegionHeld3
namespace Go.Proofs.Ytmgkpabagpgilaa.Hi
open Go.ChangeShapes Go.WideShapes Go.ChangeAt Go.RowKit Base F Tx
def gH (p : Int × Int) : Value := .agg #[.int .i64 p.1, .int .i64 p.2]
theorem gH_inj {p q : Int × Int} (h : gH p = gH q) : p = q := by
  obtain ⟨a, b⟩ := p
  obtain ⟨c, d⟩ := q
  simp [gH] at h
  rw [h.1, h.2]
theorem zeroIn (w : World) : (zeroValue 3).run Try.prog w = .ok (.int .i64 0) w := by kernel_rfl
abbrev MC (W : World) (b n : Nat) (f : Int × Int → Int) : Prop := Mp.MI Try.prog 75 3 gH W b n f
/-- What countWrites leaves. -/
def CntP (xs : List Txn) (w : World) (e : Ending) (w' : World) : Prop := ∃ b n, e = .returned (.map (some b)) ∧ w.heap.size ≤ b ∧ MC w' b n (fun q => ((cntW xs q.1 q.2 : Nat) : Int)) ∧ Aft w w'
/-- Two boxes and a world behind another, where a block ahead of them turns. -/
def CB (w X : World) (bA bO : Nat) (oA oO : Obj) : Prop := Aft w X ∧ X.heap[bA]? = some oA ∧ X.heap[bO]? = some oO
theorem CB.kept {w X Y : World} {bA bO b : Nat} {oA oO : Obj} (h : CB w X bA bO oA oO) (hg : X.grownBy Y (some b)) (h1 : b < bA) (h2 : b < bO) (hb : w.heap.size ≤ b := by omega) : CB w Y bA bO oA oO :=
  ⟨Below.grown h.1 hg h.1.size (fun q hq => by injection hq with hq; omega), (hg.block _ (heap_lt h.2.1) (fun e => by injection e with e; omega)).trans h.2.1, (hg.block _ (heap_lt h.2.2) (fun e => by injection e with e; omega)).trans h.2.2⟩
/-- What 'm[k]++' does to a map of counts, in its two steps; what is looked up ahead of each. -/
def BumpP (W : World) (b n : Nat) (_F0 F1 : Int × Int → Int) (t k m : Int) : Prop :=
  (Instr.lookup 47 (.map (some b)) (.agg #[.int .i64 t, .int .i64 k]) false).run Try.prog W = .ok (.int .i64 m) W ∧
  ∃ st w1, (Instr.mapEntry 47 (.map (some b)) (.agg #[.int .i64 t, .int .i64 k])).run Try.prog W = .ok (.tuple #[.int .i64 m, goInt st]) w1 ∧ W.grownBy w1 (some b) ∧
    (Instr.lookup 47 (.map (some b)) (.agg #[.int .i64 t, .int .i64 k]) false).run Try.prog w1 = .ok (.int .i64 m) w1 ∧
    ∃ w3, (Instr.entryStore 47 (.map (some b)) (goInt st) (.int .i64 (m + 1))).run Try.prog w1 = .ok () w3 ∧ MC w3 b (n + 1) F1 ∧ w1.grownBy w3 (some b)
theorem mc_look {W : World} {b n : Nat} {F0 : Int × Int → Int} (h : MC W b n F0) {t k m : Int} (ht : -9223372036854775808 ≤ t ∧ t ≤ 9223372036854775807) (hk : -9223372036854775808 ≤ k ∧ k ≤ 9223372036854775807) (h0 : F0 (t, k) = m) :
    (Instr.lookup 47 (.map (some b)) (.agg #[.int .i64 t, .int .i64 k]) false).run Try.prog W = .ok (.int .i64 m) W := by
  obtain ⟨kl, hkl⟩ := Mp.key_h t k ht hk
  have := h.look (t := 47) Mp.keyedH Try.underlying47 Try.underlying3 (zeroIn _) (t, k) hkl
  rw [h0] at this
  exact this
theorem mc_bump {W : World} {b n : Nat} {F0 F1 : Int × Int → Int} (h : MC W b n F0) (hn : n < maxLen) {t k m : Int} (ht : -9223372036854775808 ≤ t ∧ t ≤ 9223372036854775807) (hk : -9223372036854775808 ≤ k ∧ k ≤ 9223372036854775807) (hm : 0 ≤ m ∧ m < 9223372036854775807)
    (h0 : F0 (t, k) = m) (h1 : F1 (t, k) = m + 1) (h2 : ∀ q, q ≠ (t, k) → F1 q = F0 q) : BumpP W b n F0 F1 t k m := by
  refine ⟨mc_look h ht hk h0, ?_⟩
  obtain ⟨kl, hkl⟩ := Mp.key_h t k ht hk
  obtain ⟨st, w1, r1, r2, r3, r4⟩ := h.entry (t := 47) Mp.keyedH Try.underlying47 Try.underlying3 zeroIn hn (t, k) hkl (fun y e => by rw [gH_inj e]) (by rw [h0]; exact WalkArith.wf_i64 ⟨by omega, by omega⟩)
  rw [h0] at r1
  obtain ⟨w3, q1, q2, q3⟩ := r4 w1 (m + 1) F1 rfl (WalkArith.wf_i64 ⟨by omega, by omega⟩) (fun y e => by rw [gH_inj e, h1]) (fun y e => h2 y fun e2 => e (by rw [e2]))
  exact ⟨st, w1, r1, r3, mc_look r2 ht hk h0, w3, q1, q2, q3⟩
theorem bump_f (A : Int → Int → Nat) (B B' : Int → Nat) (t k : Int) (hB : ∀ key, B' key = B key + if k = key then 1 else 0) : (∀ q : Int × Int, q ≠ (t, k) → ((A q.1 q.2 + (if t = q.1 then B' q.2 else 0) : Nat) : Int) = ((A q.1 q.2 + (if t = q.1 then B q.2 else 0) : Nat) : Int)) ∧ ((A t k + (if t = t then B' k else 0) : Nat) : Int) = ((A t k + B k : Nat) : Int) + 1 ∧ ((A t k + (if t = t then B k else 0) : Nat) : Int) = ((A t k + B k : Nat) : Int) := by
  refine ⟨fun q hq => ?_, ?_, ?_⟩
  · obtain ⟨q1, q2⟩ := q
    simp only
    by_cases e : t = q1
    · rw [if_pos e, if_pos e, hB, if_neg (fun e2 => hq (by rw [e, e2])), Nat.add_zero]
    · rw [if_neg e, if_neg e]
  · rw [if_pos rfl, hB, if_pos rfl]; omega
  · rw [if_pos rfl]
section
variable {P : Program} {w : World} {ops : Array Oper} {o : Oper} {a : Act} {K : Act → World → Prop} {Q : Exit → Act → World → Prop} {E : Prop} {t : TypeId} {b : Nat}
/-- A look-up as a step of a region that draws. -/
theorem step_lookup (hgd : o.guard = none) (m x : Operand) (hop : o.op = Op.lookup t m x false) {key v : Value} (hm : a.eval m = .map (some b)) (hx : a.eval x = key) (hr : (Instr.lookup t (.map (some b)) key false).run P w = .ok v w) (hK : K (a.put o.dst v) w) :
    if Region.wanted o (yielded ops a.tmps) = true then Oper.wp P o a w K Q else E := by
  rw [if_pos (by simp [Region.wanted, hgd])]
  unfold Oper.wp
  simp [execOp, hop, hm, hx, hr, Result.andThen]
  exact hK
end
end Go.Proofs.Ytmgkpabagpgilaa.Hi
namespace Go.Proofs.Ytmgkpabagpgilaa.Hi
open Go.ChangeShapes Go.WideShapes Go.ChangeAt Go.RowKit Base F Tx Go.Sort
set_option maxRecDepth 100000 in
set_option maxHeartbeats 8000000 in
theorem countW_any {v : Value} {xs : List Txn} (w : World) (h : Txs w v xs) (hok : ∀ t ∈ xs, Txn.ok t) (hx : xs.length ≤ 4096) (hl : ∀ t ∈ xs, t.ops.length ≤ 100000) : Calls Try.prog 16 #[v] w (CntP xs w) := by
  have hmm := @run_makeMap Try.prog
  obtain ⟨p, c, rfl, _, hlm⟩ := h.form
  have HT := Lib.hid h
  have HOK := Lib.hid hok
  have HL := Lib.hid hl
  have HX := Lib.hid hx
  have HS0 : Hid (∃ n, n ≤ 100000 * 0 ∧ MC (w.alloc (.map #[] 0)) w.heap.size n (fun q => ((cntW (xs.take 0) q.1 q.2 : Nat) : Int)) ∧ Aft w (w.alloc (.map #[] 0))) := Lib.hid ⟨0, by omega, (Mp.MI.made (heap_alloc_at _ _ _ rfl)).ext fun q => by simp [cntW], Aft.one _⟩
  clear h hok hl hx
  go_enter Try.func16, Try.ntmps16
  go_wp2_with fail
  clear hmm
  go_loopw [11] (fun s11 wr => ∃ k : Nat, s11 = .int .i64 (k : Int) ∧ k ≤ xs.length ∧ Hid (∃ n, n ≤ 100000 * k ∧ MC wr w.heap.size n (fun q => ((cntW (xs.take k) q.1 q.2 : Nat) : Int)) ∧ Aft w wr)) (fun s11 _ => xs.length - (intOf s11).toNat)
  case atStart => exact ⟨0, rfl, Nat.zero_le _, HS0⟩
  case round =>
    clear HS0
    obtain ⟨k, rfl, hk, HS⟩ := hrel
    obtain ⟨wA, hwA⟩ : ∃ wA, wA = wr := ⟨_, rfl⟩
    subst hwA
    by_cases hlt : k < xs.length
    · have HA : Hid (Aft w wA) := Lib.hid (by obtain ⟨_, _, _, h⟩ := HS.out; exact h)
      obtain ⟨g, o, sp, sc, rfl, hg, c0, c1, c2, hs⟩ := HT.out.at_ hlt
      have c0 := HA.out.cell hg c0
      have c1 := HA.out.cell hg c1
      have c2 := HA.out.cell hg c2
      have hg := Nat.lt_of_lt_of_le hg HA.out.size
      have HTK := Lib.hid (fun t k' => cnt_take xs k hlt t k')
      have HLK := Lib.hid (HL.out _ (getD_mem hlt))
      have HOKK := Lib.hid (HOK.out _ (getD_mem hlt))
      have HCB : Hid (∀ t k', cntW (xs.take k) t k' ≤ 100000 * 4096) := Lib.hid fun t k' => Nat.le_trans (cnt_bd (xs.take k) t k' fun x hx => HL.out x (List.mem_of_mem_take hx)) (Nat.mul_le_mul_left _ (by rw [List.length_take]; have := HX.out; omega))
      have hk4 : k ≤ 4096 := by have := HX.out; omega
      have hkI : (k : Int) < (xs.length : Int) := by omega
      generalize xs.getD k Txn.zero = t at c0 c1 c2 hs HTK HLK HOKK
      obtain ⟨ti, td, tl⟩ := t
      simp only at c0 c1 c2 hs HTK HLK HOKK
      have HOP : Hid (∀ X, Aft w X → Oprs 0 X (.slice sp tl.length sc) tl) := Lib.hid fun X hX => (hs.below hX).2
      have HTI : Hid (-9223372036854775808 ≤ ti ∧ ti ≤ 9223372036854775807) := Lib.hid HOKK.out.1
      have HOKO : Hid (∀ x ∈ tl, Opr.ok x) := Lib.hid HOKK.out.2
      have hln : tl.length ≤ 100000 := HLK.out
      clear hs HT HOK HL HLK HOKK HX
      obtain ⟨p2, c2', e2, _, _⟩ := (HOP.out _ HA.out).open_
      injection e2 with e2a e2b e2c
      subst e2a e2c
      clear e2b
      have HI0 : Hid (∃ n, n ≤ 100000 * k + 0 ∧ MC (wA.alloc (boxT ti td (.slice sp tl.length sc))) w.heap.size n (fun q => ((cntW (xs.take k) q.1 q.2 + (if ti = q.1 then wrN (tl.take 0) q.2 else 0) : Nat) : Int)) ∧ Aft w (wA.alloc (boxT ti td (.slice sp tl.length sc))) ∧ (wA.alloc (boxT ti td (.slice sp tl.length sc))).heap[wA.heap.size]? = some (boxT ti td (.slice sp tl.length sc))) := Lib.hid (by
        obtain ⟨n, h1, h2, h3⟩ := HS.out
        exact ⟨n, by omega, (h2.lay rfl _).ext fun q => by simp [wrN], h3.lay _, heap_alloc_at _ _ _ rfl⟩)
      unfold boxT at HI0
      have HBL : Hid (w.heap.size < wA.heap.size) := Lib.hid (by obtain ⟨_, _, h, _⟩ := HS.out; exact h.lt)
      clear HS
      have htl := tl.length
      go_wp2_with fail
      go_loopw [18] (fun s18 wr => ∃ j : Nat, s18 = .int .i64 (j : Int) ∧ j ≤ tl.length ∧ Hid (∃ n, n ≤ 100000 * k + j ∧ MC wr w.heap.size n (fun q => ((cntW (xs.take k) q.1 q.2 + (if ti = q.1 then wrN (tl.take j) q.2 else 0) : Nat) : Int)) ∧ Aft w wr ∧ wr.heap[wA.heap.size]? = some (.cells #[.int .i64 ti, .bool td, .slice sp tl.length sc] 40))) (fun s18 _ => tl.length - (intOf s18).toNat)
      case atStart => exact ⟨0, rfl, Nat.zero_le _, HI0⟩
      case round =>
        clear HI0
        obtain ⟨j, rfl, hj, HS⟩ := hrel
        by_cases hlt2 : j < tl.length
        · have HA2 : Hid (Aft w wr) := Lib.hid (by obtain ⟨_, _, _, h, _⟩ := HS.out; exact h)
          obtain ⟨p', c', e, _, hc⟩ := (HOP.out _ HA2.out).open_
          injection e with e1 e2 e3
          subst e1 e3
          clear e2
          obtain ⟨g2, o2, rfl, _, hg2, d0, d1, d2, d3⟩ := hc j hlt2
          clear hc
          have HSN := Lib.hid (fun key => wrN_take tl j hlt2 key)
          have HOJ := Lib.hid (HOKO.out _ (getD_memO hlt2))
          have hjI : (j : Int) < (tl.length : Int) := by omega
          generalize tl.getD j Opr.zero = x at d0 d1 d2 d3 HSN HOJ
          obtain ⟨xr, xk, xt, xn⟩ := x
          dsimp only at d0 d1 d2 d3
          cases xr with
          | true =>
            have HR : Hid (∃ n, n ≤ 100000 * k + (j + 1) ∧ MC (wr.alloc (boxO ⟨true, xk, xt, xn⟩)) w.heap.size n (fun q => ((cntW (xs.take k) q.1 q.2 + (if ti = q.1 then wrN (tl.take (j + 1)) q.2 else 0) : Nat) : Int)) ∧ Aft w (wr.alloc (boxO ⟨true, xk, xt, xn⟩)) ∧ (wr.alloc (boxO ⟨true, xk, xt, xn⟩)).heap[wA.heap.size]? = some (.cells #[.int .i64 ti, .bool td, .slice (some ⟨g2, o2, none⟩) tl.length sc] 40)) := Lib.hid (by
              obtain ⟨n, h1, h2, h3, h4⟩ := HS.out
              exact ⟨n, by omega, (h2.lay rfl _).ext fun q => by rw [HSN.out]; simp, h3.lay _, heap_alloc_lt _ _ _ _ h4⟩)
            clear HS HSN
            unfold boxO at HR
            go_wp2_with fail
            go_roundw
            case rel => exact ⟨j + 1, by go_num, by omega, HR⟩
            case measure => simp [intOf]; omega
          | false =>
            obtain ⟨X, hX⟩ : ∃ X, X = wr.alloc (boxO ⟨false, xk, xt, xn⟩) := ⟨_, rfl⟩
            obtain ⟨b7, hb7⟩ : ∃ b, b = wr.heap.size := ⟨_, rfl⟩
            have HB7 : Hid (w.heap.size < b7) := Lib.hid (by rw [hb7]; obtain ⟨_, _, h, _⟩ := HS.out; exact h.lt)
            have HXS : Hid (∃ n, n ≤ 100000 * k + j ∧ MC X w.heap.size n (fun q => ((cntW (xs.take k) q.1 q.2 + (if ti = q.1 then wrN (tl.take j) q.2 else 0) : Nat) : Int)) ∧ Aft w X ∧ X.heap[wA.heap.size]? = some (.cells #[.int .i64 ti, .bool td, .slice (some ⟨g2, o2, none⟩) tl.length sc] 40) ∧ X.heap[b7]? = some (boxO ⟨false, xk, xt, xn⟩)) := Lib.hid (by
              obtain ⟨n, h1, h2, h3, h4⟩ := HS.out
              rw [hX, hb7]
              exact ⟨n, h1, h2.lay rfl _, h3.lay _, heap_alloc_lt _ _ _ _ h4, heap_alloc_at _ _ _ rfl⟩)
            obtain ⟨m, hm⟩ : ∃ m : Nat, m = cntW (xs.take k) ti xk + wrN (tl.take j) xk := ⟨_, rfl⟩
            have hmb : m ≤ 100000 * 4096 + 100000 := by
              have h1 := HCB.out ti xk
              have h2 := wrN_le (tl.take j) xk
              have h3 : (tl.take j).length ≤ 100000 := by rw [List.length_take]; omega
              omega
            have HSN2 := Lib.hid (bump_f (cntW (xs.take k)) (wrN (tl.take j)) (wrN (tl.take (j + 1))) ti xk (fun key => by rw [HSN.out]; simp))
            obtain ⟨F0, hF0⟩ : ∃ F : Int × Int → Int, F = fun q => ((cntW (xs.take k) q.1 q.2 + (if ti = q.1 then wrN (tl.take j) q.2 else 0) : Nat) : Int) := ⟨_, rfl⟩
            obtain ⟨F1, hF1⟩ : ∃ F : Int × Int → Int, F = fun q => ((cntW (xs.take k) q.1 q.2 + (if ti = q.1 then wrN (tl.take (j + 1)) q.2 else 0) : Nat) : Int) := ⟨_, rfl⟩
            have HFS : Hid (F0 (ti, xk) = (m : Int) ∧ F1 (ti, xk) = (m : Int) + 1 ∧ ∀ q, q ≠ (ti, xk) → F1 q = F0 q) := Lib.hid ⟨by rw [hF0, hm]; exact HSN2.out.2.2, by rw [hF1, hm]; exact HSN2.out.2.1, fun q hq => by rw [hF0, hF1]; exact HSN2.out.1 q hq⟩
            have HK : Hid (-9223372036854775808 ≤ xk ∧ xk ≤ 9223372036854775807) := Lib.hid HOJ.out.1
            have HBU : Hid (∀ W n, n ≤ 100000 * k + j → MC W w.heap.size n F0 → BumpP W w.heap.size n F0 F1 ti xk (m : Int)) := Lib.hid fun W n hn h => mc_bump h (by simp only [maxLen]; omega) HTI.out HK.out ⟨by omega, by omega⟩ HFS.out.1 HFS.out.2.1 HFS.out.2.2
            have HF1 := Lib.hid hF1
            have hw : IntKind.i64.wrap ((m : Int) + 1) = (m : Int) + 1 := by rw [IntKind.wrap_i64] <;> omega
            have HNJ : Hid (∀ n, n ≤ 100000 * k + j → n + 1 ≤ 100000 * k + (j + 1)) := Lib.hid fun n h => by omega
            rw [← hF0] at HXS
            clear HS HSN HSN2 HCB hm hmb HOJ HK hln hk4 hF0 hF1 HFS
            unfold boxO at hX
            go_upto_region 9 with fail
            rw [← hX, ← hb7]
            clear hX hb7
            have HD : Hid (∃ n, n ≤ 100000 * k + j ∧ MC X.drew w.heap.size n F0 ∧ Aft w X.drew ∧ X.drew.heap[wA.heap.size]? = some (.cells #[.int .i64 ti, .bool td, .slice (some ⟨g2, o2, none⟩) tl.length sc] 40) ∧ X.drew.heap[b7]? = some (boxO ⟨false, xk, xt, xn⟩)) := Lib.hid (by
              obtain ⟨n, h1, h2, h3, h4, h5⟩ := HXS.out
              exact ⟨n, h1, h2.heap rfl, h3.drew 1, h4, h5⟩)
            clear HXS
            have HBL2 : Hid (w.heap.size < wA.heap.size ∧ w.heap.size < b7) := Lib.hid ⟨HBL.out, HB7.out⟩
            clear HBL HB7
            have HBL := Lib.hid HBL2.out
            clear HBL2
            refine wp_region_held_drew (S := fun Y => Y.cell? ⟨wA.heap.size, 0, none⟩ = some (.int .i64 ti) ∧ Y.cell? ⟨b7, 1, none⟩ = some (.int .i64 xk)) (by kernel_rfl) (by obtain ⟨n, h1, h2, h3, h4, h5⟩ := HD.out; exact ⟨(cellsT h4).2.1.1, (cellsO h5).2.1.2.1⟩) (fun hHeld0 => ?_)
            generalize X.drew = XD at HD hHeld0 ⊢
            refine wpAnyH_take (i := 0) (v := ?_) rfl (by kernel_rfl) (by kernel_rfl) (by kernel_rfl) (fun _ _ _ h => h) (Or.inl ⟨by rfl, ?yr0⟩) (by assumption) ?qr0
            case yr0 => (intro wz hSw; (try dsimp only at hSw); go_simp <;> with_reducible rfl)
            try simp only [Act.put, List.getElem_toArray, List.getElem_cons_zero, List.setIfInBounds_toArray, List.set_cons_zero, List.set_cons_succ]
            refine wpAnyH_take (i := 1) (v := ?_) rfl (by kernel_rfl) (by kernel_rfl) (by kernel_rfl) (fun _ _ _ h => h) (Or.inl ⟨by rfl, ?yr1⟩) (by assumption) ?qr1
            case yr1 => (intro wz hSw; (try dsimp only at hSw); go_simp <;> with_reducible rfl)
            try simp only [Act.put, List.getElem_toArray, List.getElem_cons_zero, List.getElem_cons_succ, List.setIfInBounds_toArray, List.set_cons_zero, List.set_cons_succ]
            refine wpAnyH_take (i := 2) (v := ?_) rfl (by kernel_rfl) (by kernel_rfl) (by kernel_rfl) (fun _ _ _ h => h) (Or.inl ⟨by rfl, ?yr2⟩) (by assumption) ?qr2
            case yr2 => (intro wz hSw; (try dsimp only at hSw); go_simp <;> with_reducible rfl)
            try simp only [Act.put, List.getElem_toArray, List.getElem_cons_zero, List.getElem_cons_succ, List.setIfInBounds_toArray, List.set_cons_zero, List.set_cons_succ]
            refine wpAnyH_take (i := 3) (v := ?_) rfl (by kernel_rfl) (by kernel_rfl) (by kernel_rfl) (fun _ _ _ h => h) (Or.inl ⟨by rfl, ?yr3⟩) (by assumption) ?qr3
            case yr3 => (intro wz hSw; (try dsimp only at hSw); go_simp <;> with_reducible rfl)
            try simp only [Act.put, List.getElem_toArray, List.getElem_cons_zero, List.getElem_cons_succ, List.setIfInBounds_toArray, List.set_cons_zero, List.set_cons_succ]
            refine wpAnyH_take (i := 4) (v := ?_) rfl (by kernel_rfl) (by kernel_rfl) (by kernel_rfl) (fun _ _ _ h => h) (Or.inl ⟨by rfl, ?yr4⟩) (by assumption) ?qr4
            case yr4 => (intro wz hSw; (try dsimp only at hSw); go_simp <;> with_reducible rfl)
            try simp only [Act.put, List.getElem_toArray, List.getElem_cons_zero, List.getElem_cons_succ, List.setIfInBounds_toArray, List.set_cons_zero, List.set_cons_succ]
            refine wpAnyH_take (i := 5) (v := ?_) rfl (by kernel_rfl) (by kernel_rfl) (by kernel_rfl) (fun _ _ _ h => h) (Or.inl ⟨by rfl, ?yr5⟩) (by assumption) ?qr5
            case yr5 => (intro wz hSw; (try dsimp only at hSw); go_simp <;> with_reducible rfl)
            try simp only [Act.put, List.getElem_toArray, List.getElem_cons_zero, List.getElem_cons_succ, List.setIfInBounds_toArray, List.set_cons_zero, List.set_cons_succ]
            refine wpAnyH_ready (rs := [6, 8]) (by kernel_rfl) (by simp) ?_
            refine AllReadyH.cons rfl (fun K hK => ?ordA) ?restA
            case ordA =>
              refine step_lookup rfl (.tmp 25) (.tmp 30) rfl (b := w.heap.size) (key := .agg #[.int .i64 ti, .int .i64 xk]) (by simp [Act.eval]) (by simp [Act.eval]) (by obtain ⟨n, h1, h2, _⟩ := HD.out; exact (HBU.out _ _ h1 h2).1) ?_
              refine hK.out _ _ hHeld0 (fun hHeldL => ?_)
              clear hK K
              try simp only [Act.put, List.getElem_toArray, List.getElem_cons_zero, List.getElem_cons_succ, List.setIfInBounds_toArray, List.set_cons_zero, List.set_cons_succ]
              refine wpAnyH_take (i := 7) (v := ?_) rfl (by kernel_rfl) (by kernel_rfl) (by kernel_rfl) (fun _ _ _ h => h) (Or.inl ⟨by rfl, ?ya7⟩) (by assumption) ?qa7
              case ya7 => (intro wz hSw; (try dsimp only at hSw); go_simp <;> with_reducible rfl)
              try simp only [Act.put, List.getElem_toArray, List.getElem_cons_zero, List.getElem_cons_succ, List.setIfInBounds_toArray, List.set_cons_zero, List.set_cons_succ]
              clear hHeldL
              refine wpAnyH_ready (rs := [8]) (by kernel_rfl) (by simp) ?_
              refine AllReadyH.cons rfl (fun K hK => ?_) AllReadyH.nil
              obtain ⟨n, hn1, hn2, hn3, hn4, hn5⟩ := HD.out
              obtain ⟨_, st, w1, r1, r3, r2, w3, r4, r5, r6⟩ := HBU.out _ _ hn1 hn2
              have HW1 := Lib.hid (CB.kept ⟨hn3, hn4, hn5⟩ r3 HBL.out.1 HBL.out.2)
              have HW3 := Lib.hid (CB.kept HW1.out r6 HBL.out.1 HBL.out.2)
              have HS1 := Lib.hid r2
              have HST : Hid (∃ n, n ≤ 100000 * k + (j + 1) ∧ MC w3 w.heap.size n (fun q => ((cntW (xs.take k) q.1 q.2 + (if ti = q.1 then wrN (tl.take (j + 1)) q.2 else 0) : Nat) : Int)) ∧ Aft w w3 ∧ w3.heap[wA.heap.size]? = some (.cells #[.int .i64 ti, .bool td, .slice (some ⟨g2, o2, none⟩) tl.length sc] 40)) := Lib.hid ⟨n + 1, HNJ.out _ hn1, by rw [← HF1.out]; exact r5, HW3.out.1, HW3.out.2.1⟩
              clear hn1 hn2 hn3 hn4 hn5 r2 r3 r5 r6 HD HBU HF1
              refine Mp.step_entry rfl (.tmp 25) (.tmp 30) rfl (b := w.heap.size) (key := .agg #[.int .i64 ti, .int .i64 xk]) (by simp [Act.eval]) (by simp [Act.eval]) r1 ?_
              clear r1
              refine hK.out _ _ ⟨(cellsT HW1.out.2.1).2.1.1, (cellsO HW1.out.2.2).2.1.2.1⟩ (fun hHeldE => ?_)
              clear hK K
              try simp only [Act.put, List.getElem_toArray, List.getElem_cons_zero, List.getElem_cons_succ, List.setIfInBounds_toArray, List.set_cons_zero, List.set_cons_succ]
              refine wpAnyH_take (i := 9) (v := ?_) rfl (by kernel_rfl) (by kernel_rfl) (by kernel_rfl) (fun _ _ _ h => h) (Or.inl ⟨by rfl, ?ya9⟩) (by assumption) ?qa9
              case ya9 => (intro wz hSw; (try dsimp only at hSw); go_simp <;> with_reducible rfl)
              try simp only [Act.put, List.getElem_toArray, List.getElem_cons_zero, List.getElem_cons_succ, List.setIfInBounds_toArray, List.set_cons_zero, List.set_cons_succ]
              refine wpAnyH_ready (rs := [10]) (by kernel_rfl) (by simp) ?_
              refine AllReadyH.cons rfl (fun K hK => ?_) AllReadyH.nil
              refine Mp.step_entryStore rfl (.tmp 25) (.tmp 34) (.tmp 32) rfl (b := w.heap.size) (st := goInt st) (val := .int .i64 ((m : Int) + 1)) (by simp [Act.eval]) (by simp [Act.eval, goInt]) (by simp [Act.eval]) r4 ?_
              clear r4
              refine hK.out _ _ ⟨(cellsT HW3.out.2.1).2.1.1, (cellsO HW3.out.2.2).2.1.2.1⟩ (fun hHeldS => ?_)
              clear hK K
              try simp only [Act.put, List.getElem_toArray, List.getElem_cons_zero, List.getElem_cons_succ]
              refine wpAnyH_done (by kernel_rfl) ?_ _
              clear hHeld0 hHeldE hHeldS HW1 HW3 HS1 HNJ
              go_wp2_with fail
              go_roundw
              case rel => exact ⟨j + 1, by go_num, by omega, HST⟩
              case measure => simp [intOf]; omega
            refine AllReadyH.cons rfl (fun K hK => ?ordB) AllReadyH.nil
            case ordB =>
              obtain ⟨n, hn1, hn2, hn3, hn4, hn5⟩ := HD.out
              obtain ⟨_, st, w1, r1, r3, r2, w3, r4, r5, r6⟩ := HBU.out _ _ hn1 hn2
              have HW1 := Lib.hid (CB.kept ⟨hn3, hn4, hn5⟩ r3 HBL.out.1 HBL.out.2)
              have HW3 := Lib.hid (CB.kept HW1.out r6 HBL.out.1 HBL.out.2)
              have HS1 := Lib.hid r2
              have HST : Hid (∃ n, n ≤ 100000 * k + (j + 1) ∧ MC w3 w.heap.size n (fun q => ((cntW (xs.take k) q.1 q.2 + (if ti = q.1 then wrN (tl.take (j + 1)) q.2 else 0) : Nat) : Int)) ∧ Aft w w3 ∧ w3.heap[wA.heap.size]? = some (.cells #[.int .i64 ti, .bool td, .slice (some ⟨g2, o2, none⟩) tl.length sc] 40)) := Lib.hid ⟨n + 1, HNJ.out _ hn1, by rw [← HF1.out]; exact r5, HW3.out.1, HW3.out.2.1⟩
              clear hn1 hn2 hn3 hn4 hn5 r2 r3 r5 r6 HD HBU HF1
              refine Mp.step_entry rfl (.tmp 25) (.tmp 30) rfl (b := w.heap.size) (key := .agg #[.int .i64 ti, .int .i64 xk]) (by simp [Act.eval]) (by simp [Act.eval]) r1 ?_
              clear r1
              refine hK.out _ _ ⟨(cellsT HW1.out.2.1).2.1.1, (cellsO HW1.out.2.2).2.1.2.1⟩ (fun hHeldE => ?_)
              clear hK K
              try simp only [Act.put, List.getElem_toArray, List.getElem_cons_zero, List.getElem_cons_succ, List.setIfInBounds_toArray, List.set_cons_zero, List.set_cons_succ]
              refine wpAnyH_take (i := 9) (v := ?_) rfl (by kernel_rfl) (by kernel_rfl) (by kernel_rfl) (fun _ _ _ h => h) (Or.inl ⟨by rfl, ?yb9⟩) (by assumption) ?qb9
              case yb9 => (intro wz hSw; (try dsimp only at hSw); go_simp <;> with_reducible rfl)
              try simp only [Act.put, List.getElem_toArray, List.getElem_cons_zero, List.getElem_cons_succ, List.setIfInBounds_toArray, List.set_cons_zero, List.set_cons_succ]
              refine wpAnyH_ready (rs := [6]) (by kernel_rfl) (by simp) ?_
              refine AllReadyH.cons rfl (fun K hK => ?_) AllReadyH.nil
              refine step_lookup rfl (.tmp 25) (.tmp 30) rfl (b := w.heap.size) (key := .agg #[.int .i64 ti, .int .i64 xk]) (by simp [Act.eval]) (by simp [Act.eval]) (HS1.out) ?_
              refine hK.out _ _ hHeldE (fun hHeldL => ?_)
              clear hK K
              try simp only [Act.put, List.getElem_toArray, List.getElem_cons_zero, List.getElem_cons_succ, List.setIfInBounds_toArray, List.set_cons_zero, List.set_cons_succ]
              refine wpAnyH_take (i := 7) (v := ?_) rfl (by kernel_rfl) (by kernel_rfl) (by kernel_rfl) (fun _ _ _ h => h) (Or.inl ⟨by rfl, ?yb7⟩) (by assumption) ?qb7
              case yb7 => (intro wz hSw; (try dsimp only at hSw); go_simp <;> with_reducible rfl)
              try simp only [Act.put, List.getElem_toArray, List.getElem_cons_zero, List.getElem_cons_succ, List.setIfInBounds_toArray, List.set_cons_zero, List.set_cons_succ]
              clear hHeldL
              refine wpAnyH_ready (rs := [10]) (by kernel_rfl) (by simp) ?_
              refine AllReadyH.cons rfl (fun K hK => ?_) AllReadyH.nil
              refine Mp.step_entryStore rfl (.tmp 25) (.tmp 34) (.tmp 32) rfl (b := w.heap.size) (st := goInt st) (val := .int .i64 ((m : Int) + 1)) (by simp [Act.eval]) (by simp [Act.eval, goInt]) (by simp [Act.eval]) r4 ?_
              clear r4
              refine hK.out _ _ ⟨(cellsT HW3.out.2.1).2.1.1, (cellsO HW3.out.2.2).2.1.2.1⟩ (fun hHeldS => ?_)
              clear hK K
              try simp only [Act.put, List.getElem_toArray, List.getElem_cons_zero, List.getElem_cons_succ]
              refine wpAnyH_done (by kernel_rfl) ?_ _
              clear hHeld0 hHeldE hHeldS HW1 HW3 HS1 HNJ
              go_wp2_with fail
              go_roundw
              case rel => exact ⟨j + 1, by go_num, by omega, HST⟩
              case measure => simp [intOf]; omega
        · have hje : j = tl.length := by omega
          subst hje
          have HR : Hid (∃ n, n ≤ 100000 * (k + 1) ∧ MC wr w.heap.size n (fun q => ((cntW (xs.take (k + 1)) q.1 q.2 : Nat) : Int)) ∧ Aft w wr) := Lib.hid (by
            obtain ⟨n, h1, h2, h3, _⟩ := HS.out
            exact ⟨n, by omega, h2.ext fun q => by rw [HTK.out, List.take_length], h3⟩)
          clear HS
          go_wp2_with fail
          go_roundw
          case rel => exact ⟨k + 1, by go_num, hlt, HR⟩
          case measure => simp [intOf]; omega
    · have hke : k = xs.length := by omega
      subst hke
      have HR : Hid (CntP xs w (.returned (.map (some w.heap.size))) wA) := Lib.hid (by
        obtain ⟨n, h1, h2, h3⟩ := HS.out
        exact ⟨_, n, rfl, Nat.le_refl _, by rw [List.take_length] at h2; exact h2, h3⟩)
      clear HS HT hlt hk
      go_wp2_with fail
      go_ret
      exact HR.out
end Go.Proofs.Ytmgkpabagpgilaa.Hi
