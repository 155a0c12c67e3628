/-
  Contracts of small functions, several texts laid into one. Not a statement of the seat.
-/
import Derived.Test.YtcmafmdcgkpagaaGreatHiR3
import Derived.BigQuiet
import Derived.Deep.Cut
import Derived.Deep.CutRange
import Derived.Deep.DeepCutAuto
import Derived.Deep.RegionHeld3
import Derived.Lib.QuietBelow
import Derived.Test.YtcmafmdcgkpagaaGreatOrMath
namespace Go.Proofs.YtcmafmdcgkpagaaGreat.Hi
open Go.ChangeShapes Go.WideShapes Go.ChangeAt Go.RowKit Base F Tx BigFrame Go.Sort
def boxV (t k n : Int) : Obj := .cells #[.int .i64 t, .int .i64 k, .int .i64 n] 83
theorem cellsV {w : World} {g : Nat} {t k n : Int} (h : w.heap[g]? = some (boxV t k n)) : g < w.heap.size ∧ w.cell? ⟨g, 0, none⟩ = some (.int .i64 t) ∧ w.cell? ⟨g, 1, none⟩ = some (.int .i64 k) ∧ w.cell? ⟨g, 2, none⟩ = some (.int .i64 n) := by
  refine ⟨heap_lt h, ?_⟩
  unfold boxV at h
  simp [World.cell?, h]
/-- Whether a version is there. -/
def hasB (h : Hist) (t k n : Int) : Bool := if t = 0 ∧ n = 0 then idB k else match findT h.txs t with
  | some x => decide (1 ≤ n ∧ n ≤ ((wrN x.ops k : Nat) : Int))
  | none => false
theorem hasB_init {h : Hist} {k : Int} : hasB h 0 k 0 = idB k := by rw [hasB, if_pos ⟨rfl, rfl⟩]
theorem hasB_none {h : Hist} {t k n : Int} (h0 : ¬ (t = 0 ∧ n = 0)) (hf : findT h.txs t = none) : hasB h t k n = false := by rw [hasB, if_neg h0, hf]
theorem hasB_some {h : Hist} {t k n : Int} {x : Txn} (h0 : ¬ (t = 0 ∧ n = 0)) (hf : findT h.txs t = some x) : hasB h t k n = decide (1 ≤ n ∧ n ≤ ((wrN x.ops k : Nat) : Int)) := by rw [hasB, if_neg h0, hf]
theorem findT_mem : ∀ {l : List Txn} {id : Int} {x : Txn}, findT l id = some x → x ∈ l
  | t :: l, id, x, h => by
    unfold findT at h
    split at h
    · injection h with h; rw [← h]; exact List.mem_cons_self ..
    · exact List.mem_cons_of_mem _ (findT_mem h)
set_option maxRecDepth 100000 in
set_option maxHeartbeats 8000000 in
theorem rhas_any {v u : Value} {h : Hist} (t k n : Int) (w : World) (hh : HistV w v u h) (hl : ∀ x ∈ h.txs, x.ops.length ≤ 1000000) : Calls Tryz.prog 46 #[.agg #[v, u], .agg #[.int .i64 t, .int .i64 k, .int .i64 n]] w (BoolNew (hasB h t k n) w) := by
  obtain ⟨p, c, hv, _, _⟩ := hh.1.form
  obtain ⟨q, d, hu, _, _⟩ := hh.2.form
  subst hv hu
  have HH := Lib.hid hh
  have HL := Lib.hid hl
  clear hh hl
  obtain ⟨wx, hwx⟩ : ∃ W, W = (w.alloc (.cells #[.slice p h.txs.length c, .slice q h.ords.length d] 25)).alloc (boxV t k n) := ⟨_, rfl⟩
  have HAX : Hid (Aft w wx) := Lib.hid (by rw [hwx]; exact ((Aft.refl w).lay _).lay _)
  have HBX : Hid (wx.heap[w.heap.size]? = some (.cells #[.slice p h.txs.length c, .slice q h.ords.length d] 25) ∧ wx.heap[w.heap.size + 1]? = some (boxV t k n)) := Lib.hid ⟨by rw [hwx]; exact heap_alloc_lt _ _ _ _ (heap_alloc_at _ _ _ rfl), by rw [hwx]; exact heap_alloc_at _ _ _ (by simp)⟩
  unfold boxV at hwx
  have HWX := Lib.hid hwx.symm
  clear hwx
  by_cases h0 : t = 0 ∧ n = 0
  · obtain ⟨rfl, rfl⟩ := h0
    rw [hasB_init]
    clear HH HL HBX
    go_enter Tryz.func46, Tryz.ntmps46
    go_wp2_with fail
    rw [HWX.out]
    refine (tid_any k wx).mono ?_
    rintro e w2 ⟨rfl, rfl⟩
    go_wp2_with fail
    go_ret
    exact ⟨rfl, HAX.out⟩
  have H0 := Lib.hid h0
  have HCALL := Lib.hid (rfind_any t wx (HH.out.below HAX.out))
  have HENTER : Hid ((t == 0) = false ∨ ((t == 0) = true ∧ (n == 0) = false)) := Lib.hid (by
    by_cases e : t = 0
    · exact .inr ⟨by rw [beq_iff_eq]; exact e, by rw [beq_eq_false_iff_ne]; exact fun e2 => h0 ⟨e, e2⟩⟩
    · exact .inl (by rw [beq_eq_false_iff_ne]; exact e))
  clear h0
  go_enter Tryz.func46, Tryz.ntmps46
  generalize hlx : h.txs.length = lx at HBX HWX HCALL HH
  generalize hly : h.ords.length = ly at HBX HWX HCALL HH
  clear hlx hly
  rcases HENTER.out with e0 | ⟨e0, e1⟩
  · clear HENTER
    go_wp2_with fail
    rw [HWX.out]
    refine HCALL.out.mono ?_
    rintro e w2 ⟨ha, hf⟩
    have HA2 := Lib.hid (HAX.out.trans ha)
    have HB2 := Lib.hid ((ha.block _ (heap_lt HBX.out.2)).trans HBX.out.2)
    clear HCALL HWX HBX HAX
    cases hx : findT h.txs t with
    | none =>
      rw [hx] at hf
      simp only at hf
      subst hf
      have HR := Lib.hid (hasB_none (k := k) H0.out hx)
      clear hx HH HL ha
      obtain ⟨_, y0, y1, y2⟩ := cellsV HB2.out
      go_upto_region 4 with fail
      refine wp_region_quiet_below (by kernel_rfl) (by kernel_rfl) ?_
      repeat (go_big_quiet_step (fail))
      refine wpQuiet_nil ?_
      intro _ hw'
      obtain ⟨⟨dq, osq⟩, hw''⟩ := hw'
      subst hw''
      have HA3 := Lib.hid (HA2.out.trans ((Aft.one (boxT 0 false (.slice none 0 0))).trans (below_regrown _ dq osq)))
      go_wp2_with fail
      go_ret
      exact ⟨congrArg (fun b => Ending.returned (.bool b)) HR.out.symm, HA3.out⟩
    | some x =>
      rw [hx] at hf
      obtain ⟨sp, sc, rfl, hops⟩ := hf
      have HX : Hid (x.ops.length ≤ 1000000) := Lib.hid (HL.out _ (findT_mem hx))
      have HR := Lib.hid (hasB_some (k := k) H0.out hx)
      obtain ⟨xi, xd, xl⟩ := x
      simp only at hops HX HR ⊢
      have HWR : Hid (∀ d os, Calls Tryz.prog 33 #[.slice sp xl.length sc, .int .i64 k] (grow (redrawn (w2.alloc (boxT xi xd (.slice sp xl.length sc))) d) os) fun e w'' => e = .returned (.int .i64 ((wrN xl k : Nat) : Int)) ∧ ∃ p : Regrown, w'' = grow (redrawn (w2.alloc (boxT xi xd (.slice sp xl.length sc))) p.d) p.os) := Lib.hid fun d os => Calls.regrown_of (rwrites_any k _ ((hops.below ((Aft.one _).trans (below_regrown _ d os))).2) HX.out)
      have HA2' : Hid (Aft w (w2.alloc (boxT xi xd (.slice sp xl.length sc)))) := Lib.hid (HA2.out.lay _)
      clear hx HH HL ha hops HX HA2
      generalize xl.length = xn at HWR HA2'
      generalize wrN xl k = m at HWR HR
      obtain ⟨XB, hXB⟩ : ∃ X, X = w2.alloc (boxT xi xd (.slice sp xn sc)) := ⟨_, rfl⟩
      obtain ⟨b5, hb5⟩ : ∃ b, b = w2.heap.size := ⟨_, rfl⟩
      rw [← hXB] at HWR HA2'
      have HB3 : Hid (XB.heap[w.heap.size + 1]? = some (boxV t k n) ∧ XB.heap[b5]? = some (boxT xi xd (.slice sp xn sc))) := Lib.hid ⟨by rw [hXB]; exact heap_alloc_lt _ _ _ _ HB2.out, by rw [hXB, hb5]; exact heap_alloc_at _ _ _ rfl⟩
      have k0 := cell_regrown (cellsV HB3.out.1).2.1
      have k1 := cell_regrown (cellsV HB3.out.1).2.2.1
      have k2 := cell_regrown (cellsV HB3.out.1).2.2.2
      have k3 := cell_regrown (cellsT HB3.out.2).2.1.2.2
      unfold boxT at hXB
      clear HB2
      by_cases h1 : 1 ≤ n
      · by_cases h2 : n ≤ (m : Int)
        · have HRT : Hid (hasB h t k n = true) := Lib.hid (by rw [HR.out]; exact decide_eq_true ⟨h1, h2⟩)
          clear HR
          go_upto_region 4 with fail
          rw [← hXB, ← hb5]
          clear hXB hb5 HB3
          refine wp_region_quiet_below (by kernel_rfl) (by kernel_rfl) ?_
          repeat (go_big_quiet_step (exact HWR.out _ _))
          refine wpQuiet_nil ?_
          intro _ hw'
          obtain ⟨⟨dq, osq⟩, hw''⟩ := hw'
          subst hw''
          have HA3 := Lib.hid (HA2'.out.trans (below_regrown _ dq osq))
          go_wp2_with fail
          go_ret
          exact ⟨congrArg (fun b => Ending.returned (.bool b)) HRT.out.symm, HA3.out⟩
        · have HRT : Hid (hasB h t k n = false) := Lib.hid (by rw [HR.out]; exact decide_eq_false fun h => h2 h.2)
          clear HR
          go_upto_region 4 with fail
          rw [← hXB, ← hb5]
          clear hXB hb5 HB3
          refine wp_region_quiet_below (by kernel_rfl) (by kernel_rfl) ?_
          repeat (go_big_quiet_step (exact HWR.out _ _))
          refine wpQuiet_nil ?_
          intro _ hw'
          obtain ⟨⟨dq, osq⟩, hw''⟩ := hw'
          subst hw''
          have HA3 := Lib.hid (HA2'.out.trans (below_regrown _ dq osq))
          go_wp2_with fail
          go_ret
          exact ⟨congrArg (fun b => Ending.returned (.bool b)) HRT.out.symm, HA3.out⟩
      · have HRT : Hid (hasB h t k n = false) := Lib.hid (by rw [HR.out]; exact decide_eq_false fun h => h1 h.1)
        clear HR
        go_upto_region 4 with fail
        rw [← hXB, ← hb5]
        clear hXB hb5 HB3
        refine wp_region_quiet_below (by kernel_rfl) (by kernel_rfl) ?_
        repeat (go_big_quiet_step (exact HWR.out _ _))
        refine wpQuiet_nil ?_
        intro _ hw'
        obtain ⟨⟨dq, osq⟩, hw''⟩ := hw'
        subst hw''
        have HA3 := Lib.hid (HA2'.out.trans (below_regrown _ dq osq))
        go_wp2_with fail
        go_ret
        exact ⟨congrArg (fun b => Ending.returned (.bool b)) HRT.out.symm, HA3.out⟩
  · clear HENTER
    go_wp2_with fail
    rw [HWX.out]
    refine HCALL.out.mono ?_
    rintro e w2 ⟨ha, hf⟩
    have HA2 := Lib.hid (HAX.out.trans ha)
    have HB2 := Lib.hid ((ha.block _ (heap_lt HBX.out.2)).trans HBX.out.2)
    clear HCALL HWX HBX HAX
    cases hx : findT h.txs t with
    | none =>
      rw [hx] at hf
      simp only at hf
      subst hf
      have HR := Lib.hid (hasB_none (k := k) H0.out hx)
      clear hx HH HL ha
      obtain ⟨_, y0, y1, y2⟩ := cellsV HB2.out
      go_upto_region 4 with fail
      refine wp_region_quiet_below (by kernel_rfl) (by kernel_rfl) ?_
      repeat (go_big_quiet_step (fail))
      refine wpQuiet_nil ?_
      intro _ hw'
      obtain ⟨⟨dq, osq⟩, hw''⟩ := hw'
      subst hw''
      have HA3 := Lib.hid (HA2.out.trans ((Aft.one (boxT 0 false (.slice none 0 0))).trans (below_regrown _ dq osq)))
      go_wp2_with fail
      go_ret
      exact ⟨congrArg (fun b => Ending.returned (.bool b)) HR.out.symm, HA3.out⟩
    | some x =>
      rw [hx] at hf
      obtain ⟨sp, sc, rfl, hops⟩ := hf
      have HX : Hid (x.ops.length ≤ 1000000) := Lib.hid (HL.out _ (findT_mem hx))
      have HR := Lib.hid (hasB_some (k := k) H0.out hx)
      obtain ⟨xi, xd, xl⟩ := x
      simp only at hops HX HR ⊢
      have HWR : Hid (∀ d os, Calls Tryz.prog 33 #[.slice sp xl.length sc, .int .i64 k] (grow (redrawn (w2.alloc (boxT xi xd (.slice sp xl.length sc))) d) os) fun e w'' => e = .returned (.int .i64 ((wrN xl k : Nat) : Int)) ∧ ∃ p : Regrown, w'' = grow (redrawn (w2.alloc (boxT xi xd (.slice sp xl.length sc))) p.d) p.os) := Lib.hid fun d os => Calls.regrown_of (rwrites_any k _ ((hops.below ((Aft.one _).trans (below_regrown _ d os))).2) HX.out)
      have HA2' : Hid (Aft w (w2.alloc (boxT xi xd (.slice sp xl.length sc)))) := Lib.hid (HA2.out.lay _)
      clear hx HH HL ha hops HX HA2
      generalize xl.length = xn at HWR HA2'
      generalize wrN xl k = m at HWR HR
      obtain ⟨XB, hXB⟩ : ∃ X, X = w2.alloc (boxT xi xd (.slice sp xn sc)) := ⟨_, rfl⟩
      obtain ⟨b5, hb5⟩ : ∃ b, b = w2.heap.size := ⟨_, rfl⟩
      rw [← hXB] at HWR HA2'
      have HB3 : Hid (XB.heap[w.heap.size + 1]? = some (boxV t k n) ∧ XB.heap[b5]? = some (boxT xi xd (.slice sp xn sc))) := Lib.hid ⟨by rw [hXB]; exact heap_alloc_lt _ _ _ _ HB2.out, by rw [hXB, hb5]; exact heap_alloc_at _ _ _ rfl⟩
      have k0 := cell_regrown (cellsV HB3.out.1).2.1
      have k1 := cell_regrown (cellsV HB3.out.1).2.2.1
      have k2 := cell_regrown (cellsV HB3.out.1).2.2.2
      have k3 := cell_regrown (cellsT HB3.out.2).2.1.2.2
      unfold boxT at hXB
      clear HB2
      by_cases h1 : 1 ≤ n
      · by_cases h2 : n ≤ (m : Int)
        · have HRT : Hid (hasB h t k n = true) := Lib.hid (by rw [HR.out]; exact decide_eq_true ⟨h1, h2⟩)
          clear HR
          go_upto_region 4 with fail
          rw [← hXB, ← hb5]
          clear hXB hb5 HB3
          refine wp_region_quiet_below (by kernel_rfl) (by kernel_rfl) ?_
          repeat (go_big_quiet_step (exact HWR.out _ _))
          refine wpQuiet_nil ?_
          intro _ hw'
          obtain ⟨⟨dq, osq⟩, hw''⟩ := hw'
          subst hw''
          have HA3 := Lib.hid (HA2'.out.trans (below_regrown _ dq osq))
          go_wp2_with fail
          go_ret
          exact ⟨congrArg (fun b => Ending.returned (.bool b)) HRT.out.symm, HA3.out⟩
        · have HRT : Hid (hasB h t k n = false) := Lib.hid (by rw [HR.out]; exact decide_eq_false fun h => h2 h.2)
          clear HR
          go_upto_region 4 with fail
          rw [← hXB, ← hb5]
          clear hXB hb5 HB3
          refine wp_region_quiet_below (by kernel_rfl) (by kernel_rfl) ?_
          repeat (go_big_quiet_step (exact HWR.out _ _))
          refine wpQuiet_nil ?_
          intro _ hw'
          obtain ⟨⟨dq, osq⟩, hw''⟩ := hw'
          subst hw''
          have HA3 := Lib.hid (HA2'.out.trans (below_regrown _ dq osq))
          go_wp2_with fail
          go_ret
          exact ⟨congrArg (fun b => Ending.returned (.bool b)) HRT.out.symm, HA3.out⟩
      · have HRT : Hid (hasB h t k n = false) := Lib.hid (by rw [HR.out]; exact decide_eq_false fun h => h1 h.1)
        clear HR
        go_upto_region 4 with fail
        rw [← hXB, ← hb5]
        clear hXB hb5 HB3
        refine wp_region_quiet_below (by kernel_rfl) (by kernel_rfl) ?_
        repeat (go_big_quiet_step (exact HWR.out _ _))
        refine wpQuiet_nil ?_
        intro _ hw'
        obtain ⟨⟨dq, osq⟩, hw''⟩ := hw'
        subst hw''
        have HA3 := Lib.hid (HA2'.out.trans (below_regrown _ dq osq))
        go_wp2_with fail
        go_ret
        exact ⟨congrArg (fun b => Ending.returned (.bool b)) HRT.out.symm, HA3.out⟩
end Go.Proofs.YtcmafmdcgkpagaaGreat.Hi
namespace Go.Proofs.YtcmafmdcgkpagaaGreat.Hi
open F Tx
/-- The ids rise, and each transaction is right. -/
def risesT : Int → List Txn → Bool
  | _, [] => true
  | la, t :: l => if t.id ≤ la then false else if rightT t.id t.ops = 0 then risesT t.id l else false
/-- How often an id writes a key. -/
def cntW : List Txn → Int → Int → Nat
  | [], _, _ => 0
  | x :: l, t, k => (if x.id = t then wrN x.ops k else 0) + cntW l t k
/-- The writers of a key that are done. -/
def wrsL (l : List Txn) (key : Int) : List Int := (l.filter (fun t => t.dn && decide (0 < wrN t.ops key))).map Txn.id
/-- All keys that those write who are done. -/
def allK (l : List Txn) : List Int := l.flatMap (fun t => if t.dn then (bareL t.ops).map Opr.k else [])
def KW (l : List Txn) : List Int := keysL (allK l)
def lackB (xs : List Txn) (t : Txn) : Bool := (needsL t.id t.ops).any fun v => decide ((cntW xs v.t v.k : Int) < v.n)
def ordsB (f : Int → List Int) : Int → List Ordr → Bool
  | _, [] => true
  | la, o :: l => if o.key ≤ la then false else if f o.key = [] then false else if Om.permB o.txs (f o.key) then ordsB f o.key l else false
/-- Whether a history is right. -/
def rightH (h : Hist) : Bool := if 4096 < h.txs.length then false else if risesT 0 h.txs then (if h.txs.any (lackB h.txs) then false else if h.ords.length = (KW h.txs).length then ordsB (wrsL h.txs) 0 h.ords else false) else false
theorem cnt_take (xs : List Txn) (k : Nat) (hk : k < xs.length) (t key : Int) : cntW (xs.take (k + 1)) t key = cntW (xs.take k) t key + (if (xs.getD k Txn.zero).id = t then wrN (xs.getD k Txn.zero).ops key else 0) := by
  induction xs generalizing k with
  | nil => simp at hk
  | cons x l ih =>
    cases k with
    | zero => simp [cntW]
    | succ k =>
      have := ih k (by simpa using hk)
      simp only [List.take_succ_cons, cntW, List.getD_cons_succ] at this ⊢
      omega
theorem cnt_bd : ∀ (xs : List Txn) (t key : Int), (∀ x ∈ xs, x.ops.length ≤ 100000) → cntW xs t key ≤ 100000 * xs.length
  | [], _, _, _ => by simp [cntW]
  | x :: l, t, key, h => by
    have h1 := cnt_bd l t key fun y hy => h y (List.mem_cons_of_mem _ hy)
    have h2 := h x List.mem_cons_self
    have h3 := wrN_le x.ops key
    rw [cntW]
    simp only [List.length_cons]
    split <;> omega
theorem wrN_take (l : List Opr) (j : Nat) (hj : j < l.length) (key : Int) : wrN (l.take (j + 1)) key = wrN (l.take j) key + (if (l.getD j Opr.zero).rd = false ∧ (l.getD j Opr.zero).k = key then 1 else 0) := by
  rw [take_snoc l Opr.zero j hj, wrN_snoc]
theorem getD_memO {l : List Opr} {k : Nat} (h : k < l.length) : l.getD k Opr.zero ∈ l := by
  rw [List.getD_eq_getElem?_getD, List.getElem?_eq_getElem h]
  exact List.getElem_mem h
end Go.Proofs.YtcmafmdcgkpagaaGreat.Hi
