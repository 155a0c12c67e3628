/-
  Contracts of small functions, several texts laid into one. Not a statement of the seat.
-/
import Derived.Test.YthmhgngfealccaaHead8
import Derived.Test.YthmhgngfealccaaHead16
import Derived.Test.YthmhgngfealccaaHiQr
namespace Go.Proofs.Ythmhgngfealccaa.Off
open Go.ChangeShapes Go.WideShapes Go.ChangeAt Go.RowKit Base F Tx Hi Go.Sort
set_option maxRecDepth 100000 in
set_option maxHeartbeats 16000000 in
theorem rbad_any {v u : Value} {h : Hist} (w : World) (hh : HistV w v u h) (hs : HistSm h) {id : Int} {d : Bool} {sp : Option Addr} {sc : Nat} {l : List Opr} (ho : OpsV w (.slice sp l.length sc) l) (i : Nat) (hi : i < l.length) (ph : Int) :
    Calls Try.prog 16 #[.agg #[v, u], .agg #[.int .i64 id, .bool d, .slice sp l.length sc], .int .i64 (i : Int), .int .i64 ph] w (BoolNew (badB h ⟨id, d, l⟩ (l.getD i Opr.zero) ph) w) := by
  obtain ⟨p, c, hv, _, hlm⟩ := hh.1.form
  obtain ⟨q, c2, hu, _, hlm2⟩ := hh.2.form
  subst hv hu
  obtain ⟨p', c', e, _, hc⟩ := ho.2.open_
  injection e with ea eb ec
  subst ea ec
  clear eb
  obtain ⟨g, o, rfl, _, hg, d0, d1, d2, d3⟩ := hc i hi
  obtain ⟨X, hX⟩ : ∃ X, X = ((w.alloc (boxH (.slice p h.txs.length c) (.slice q h.ords.length c2))).alloc (boxT id d (.slice (some ⟨g, o, none⟩) l.length sc))).alloc (boxO (l.getD i Opr.zero)) := ⟨_, rfl⟩
  have HA : Hid (Aft w X) := Lib.hid (by rw [hX]; exact ((Aft.one _).lay _).lay _)
  have hiI : (i : Int) < (l.length : Int) := by omega
  have HBX : Hid (∀ W, Aft X W → (W.cell? ⟨w.heap.size, 0, none⟩ = some (.slice p h.txs.length c) ∧ W.cell? ⟨w.heap.size, 1, none⟩ = some (.slice q h.ords.length c2)) ∧ (W.cell? ⟨w.heap.size + 1, 0, none⟩ = some (.int .i64 id) ∧ W.cell? ⟨w.heap.size + 1, 1, none⟩ = some (.bool d)) ∧ W.cell? ⟨w.heap.size + 1 + 1, 0, none⟩ = some (.bool (l.getD i Opr.zero).rd) ∧ W.cell? ⟨w.heap.size + 1 + 1, 1, none⟩ = some (.int .i64 (l.getD i Opr.zero).k) ∧ W.cell? ⟨w.heap.size + 1 + 1, 2, none⟩ = some (.int .i64 (l.getD i Opr.zero).t) ∧ W.cell? ⟨w.heap.size + 1 + 1, 3, none⟩ = some (.int .i64 (l.getD i Opr.zero).n)) := Lib.hid fun W hW => by
    have e1 : X.heap[w.heap.size]? = some (boxH (.slice p h.txs.length c) (.slice q h.ords.length c2)) := by rw [hX]; exact heap_alloc_lt _ _ _ _ (heap_alloc_lt _ _ _ _ (heap_alloc_at _ _ _ rfl))
    have e2 : X.heap[w.heap.size + 1]? = some (boxT id d (.slice (some ⟨g, o, none⟩) l.length sc)) := by rw [hX]; exact heap_alloc_lt _ _ _ _ (heap_alloc_at _ _ _ (by simp))
    have e3 : X.heap[w.heap.size + 1 + 1]? = some (boxO (l.getD i Opr.zero)) := by rw [hX]; exact heap_alloc_at _ _ _ (by simp)
    have t2 := (cellsT ((hW.block _ (heap_lt e2)).trans e2)).2.1
    exact ⟨cellsH ((hW.block _ (heap_lt e1)).trans e1), ⟨t2.1, t2.2.1⟩, (cellsO ((hW.block _ (heap_lt e3)).trans e3)).2.1⟩
  have HFD : Hid (∀ W t, Aft X W → Calls Try.prog 29 #[.agg #[.slice p h.txs.length c, .slice q h.ords.length c2], .int .i64 t] W (FindP (findT h.txs t) W)) := Lib.hid fun W t hW => rfind_any t W (hh.below (HA.out.trans hW))
  have HOL : Hid (∀ x ∈ h.txs, x.ops.length ≤ 100) := Lib.hid hs.ops
  have HBD : Hid (badB h ⟨id, d, l⟩ (l.getD i Opr.zero) ph = (d && (l.getD i Opr.zero).rd && decide ((l.getD i Opr.zero).t ≠ 0) && decide ((l.getD i Opr.zero).t ≠ id) && (match findT h.txs (l.getD i Opr.zero).t with
    | none => false
    | some u => if ph = 2 then !u.dn else decide (ph = 3) && decide ((l.getD i Opr.zero).n < ((wrN u.ops (l.getD i Opr.zero).k : Nat) : Int))))) := Lib.hid rfl
  generalize badB h ⟨id, d, l⟩ (l.getD i Opr.zero) ph = r at HBD ⊢
  generalize h.txs.length = n1 at *
  generalize h.ords.length = n2 at *
  generalize l.length = n3 at *
  generalize l.getD i Opr.zero = x at d0 d1 d2 d3 hX HBX HBD
  obtain ⟨xr, xk, xt, xn⟩ := x
  simp only at d0 d1 d2 d3 HBX HBD
  have HXE := Lib.hid hX.symm
  unfold boxH boxT boxO at HXE
  have HBX0 := Lib.hid (HBX.out X (Aft.refl X))
  have hwx : w.heap.size + 1 + 1 < X.heap.size := by rw [hX]; simp
  clear hh hs ho hc hX
  by_cases hsh : d = true ∧ xr = true ∧ xt ≠ 0 ∧ xt ≠ id
  · obtain ⟨rfl, rfl, h3, h4⟩ := hsh
    have e3 : (xt == 0) = false := by rw [beq_eq_false_iff_ne]; exact h3
    have e4 : (xt == id) = false := by rw [beq_eq_false_iff_ne]; exact h4
    have HBD2 : Hid (r = (match findT h.txs xt with
      | none => false
      | some u => if ph = 2 then !u.dn else decide (ph = 3) && decide (xn < ((wrN u.ops xk : Nat) : Int)))) := Lib.hid (by rw [HBD.out, decide_eq_true h3, decide_eq_true h4]; rfl)
    clear h3 h4 HBD
    go_enter Try.func16, Try.ntmps16
    go_wp2_with fail
    rw [HXE.out]
    refine (HFD.out X xt (Aft.refl X)).mono ?_
    rintro e w2 ⟨ha, hf⟩
    have HOM : Hid (∀ t, findT h.txs xt = some t → t.ops.length ≤ 100) := Lib.hid fun t ht => HOL.out t (findT_mem ht)
    generalize findT h.txs xt = fo at hf HBD2 HOM
    cases fo with
    | none =>
      simp only at hf
      subst hf
      have HA2 := Lib.hid (HA.out.trans ha)
      have HRF : Hid (r = false) := HBD2
      clear ha HBX HFD HBD2 HXE
      go_wp2_with fail
      go_ret
      exact ⟨ret_bool HRF.out.symm, HA2.out.lay _⟩
    | some t =>
      obtain ⟨sp2, sc2, rfl, hops⟩ := hf
      have HTL := Lib.hid (HOM.out t rfl)
      obtain ⟨ui, ud, ul⟩ := t
      simp only at hops HBD2 HTL
      have HOPS := Lib.hid (hops.2)
      obtain ⟨Y, hY⟩ : ∃ Y, Y = w2.alloc (boxT ui ud (.slice sp2 ul.length sc2)) := ⟨_, rfl⟩
      have HAY : Hid (Aft X Y) := Lib.hid (by rw [hY]; exact ha.lay _)
      have HBY : Hid (∀ W, Aft Y W → W.heap[w2.heap.size]? = some (boxT ui ud (.slice sp2 ul.length sc2))) := Lib.hid fun W hW => by
        have e : Y.heap[w2.heap.size]? = some (boxT ui ud (.slice sp2 ul.length sc2)) := by rw [hY]; exact heap_alloc_at _ _ _ rfl
        exact (hW.block _ (heap_lt e)).trans e
      have HWR : Hid (∀ W, Aft w2 W → Calls Try.prog 30 #[.slice sp2 ul.length sc2, .int .i64 xk] W (IntNew (wrN ul xk : Nat) W)) := Lib.hid fun W hW => rwrites_any xk W (HOPS.out.below hW) (by have := HTL.out; omega)
      have HAY2 : Hid (Aft w2 Y) := Lib.hid (by rw [hY]; exact Aft.one _)
      have hsz2 : w.heap.size + 1 + 1 < w2.heap.size := Nat.lt_of_lt_of_le hwx ha.size
      generalize wrN ul xk = m at HBD2 HWR
      generalize ul.length = n4 at HWR hY HBY
      clear hops HOPS HTL HOM ha
      unfold boxT at hY
      have HYE := Lib.hid hY.symm
      clear hY
      by_cases h2 : ph = 2
      · subst h2
        have HR2 : Hid (r = !ud) := Lib.hid (by rw [HBD2.out]; rfl)
        clear HBD2 HWR
        go_wp2_with fail
        go_ret
        exact ⟨ret_bool HR2.out.symm, by rw [HYE.out]; exact HA.out.trans HAY.out⟩
      · have e2 : (ph == 2) = false := by rw [beq_eq_false_iff_ne]; exact h2
        have HR2 : Hid (r = (decide (ph = 3) && decide (xn < ((m : Nat) : Int)))) := Lib.hid (by rw [HBD2.out]; exact if_neg h2)
        have HCY : Hid (∀ W, Aft Y W → (W.cell? ⟨w.heap.size + 1 + 1, 0, none⟩ = some (.bool true) ∧ W.cell? ⟨w.heap.size + 1 + 1, 1, none⟩ = some (.int .i64 xk) ∧ W.cell? ⟨w.heap.size + 1 + 1, 2, none⟩ = some (.int .i64 xt) ∧ W.cell? ⟨w.heap.size + 1 + 1, 3, none⟩ = some (.int .i64 xn)) ∧ W.cell? ⟨w2.heap.size, 0, none⟩ = some (.int .i64 ui) ∧ W.cell? ⟨w2.heap.size, 1, none⟩ = some (.bool ud) ∧ W.cell? ⟨w2.heap.size, 2, none⟩ = some (.slice sp2 n4 sc2)) := Lib.hid fun W hW => ⟨(HBX.out W (HAY.out.trans hW)).2.2, (cellsT (HBY.out W hW)).2.1⟩
        clear HBD2 h2
        go_upto_region 9 with fail
        rw [HYE.out]
        refine wp_region_held_drew (S := fun Z => (Z.cell? ⟨w.heap.size + 1 + 1, 0, none⟩ = some (.bool true) ∧ Z.cell? ⟨w.heap.size + 1 + 1, 1, none⟩ = some (.int .i64 xk) ∧ Z.cell? ⟨w.heap.size + 1 + 1, 2, none⟩ = some (.int .i64 xt) ∧ Z.cell? ⟨w.heap.size + 1 + 1, 3, none⟩ = some (.int .i64 xn)) ∧ Z.cell? ⟨w2.heap.size, 0, none⟩ = some (.int .i64 ui) ∧ Z.cell? ⟨w2.heap.size, 1, none⟩ = some (.bool ud) ∧ Z.cell? ⟨w2.heap.size, 2, none⟩ = some (.slice sp2 n4 sc2)) (by kernel_rfl) (HCY.out _ ((Aft.refl Y).drew 1)) (fun hHeld0 => ?_)
        clear HYE HXE
        by_cases h3 : ph = 3
        · subst h3
          have HR3 : Hid (r = decide (xn < ((m : Nat) : Int))) := Lib.hid (by rw [HR2.out]; rfl)
          refine wpAnyH_take (i := 0) (v := ?_) rfl (by kernel_rfl) (by kernel_rfl) (by kernel_rfl) (fun _ _ _ h => h) (Or.inl ⟨by rfl, ?yg0⟩) (by assumption) ?qg0
          case yg0 => (intro wz hSw; (try dsimp only at hSw); go_simp <;> with_reducible rfl)
          try simp only [Act.put, List.getElem_toArray, List.getElem_cons_zero, List.setIfInBounds_toArray, List.set_cons_zero, List.set_cons_succ]
          refine wpAnyH_take (i := 1) (v := ?_) rfl (by kernel_rfl) (by kernel_rfl) (by kernel_rfl) (fun _ _ _ h => h) (Or.inl ⟨by rfl, ?yg1⟩) (by assumption) ?qg1
          case yg1 => (intro wz hSw; (try dsimp only at hSw); go_simp <;> with_reducible rfl)
          try simp only [Act.put, List.getElem_toArray, List.getElem_cons_zero, List.getElem_cons_succ, List.setIfInBounds_toArray, List.set_cons_zero, List.set_cons_succ]
          refine wpAnyH_take (i := 2) (v := ?_) rfl (by kernel_rfl) (by kernel_rfl) (by kernel_rfl) (fun _ _ _ h => h) (Or.inl ⟨by rfl, ?yg2⟩) (by assumption) ?qg2
          case yg2 => (intro wz hSw; (try dsimp only at hSw); go_simp <;> with_reducible rfl)
          try simp only [Act.put, List.getElem_toArray, List.getElem_cons_zero, List.getElem_cons_succ, List.setIfInBounds_toArray, List.set_cons_zero, List.set_cons_succ]
          refine wpAnyH_take (i := 3) (v := ?_) rfl (by kernel_rfl) (by kernel_rfl) (by kernel_rfl) (fun _ _ _ h => h) (Or.inl ⟨by rfl, ?yg3⟩) (by assumption) ?qg3
          case yg3 => (intro wz hSw; (try dsimp only at hSw); go_simp <;> with_reducible rfl)
          try simp only [Act.put, List.getElem_toArray, List.getElem_cons_zero, List.getElem_cons_succ, List.setIfInBounds_toArray, List.set_cons_zero, List.set_cons_succ]
          refine wpAnyH_take (i := 4) (v := ?_) rfl (by kernel_rfl) (by kernel_rfl) (by kernel_rfl) (fun _ _ _ h => h) (Or.inl ⟨by rfl, ?yg4⟩) (by assumption) ?qg4
          case yg4 => (intro wz hSw; (try dsimp only at hSw); go_simp <;> with_reducible rfl)
          try simp only [Act.put, List.getElem_toArray, List.getElem_cons_zero, List.getElem_cons_succ, List.setIfInBounds_toArray, List.set_cons_zero, List.set_cons_succ]
          refine wpAnyH_take (i := 5) (v := ?_) rfl (by kernel_rfl) (by kernel_rfl) (by kernel_rfl) (fun _ _ _ h => h) (Or.inl ⟨by rfl, ?yg5⟩) (by assumption) ?qg5
          case yg5 => (intro wz hSw; (try dsimp only at hSw); go_simp <;> with_reducible rfl)
          try simp only [Act.put, List.getElem_toArray, List.getElem_cons_zero, List.getElem_cons_succ, List.setIfInBounds_toArray, List.set_cons_zero, List.set_cons_succ]
          refine wpAnyH_take (i := 6) (v := ?_) rfl (by kernel_rfl) (by kernel_rfl) (by kernel_rfl) (fun _ _ _ h => h) (Or.inl ⟨by rfl, ?yg6⟩) (by assumption) ?qg6
          case yg6 => (intro wz hSw; (try dsimp only at hSw); go_simp <;> with_reducible rfl)
          try simp only [Act.put, List.getElem_toArray, List.getElem_cons_zero, List.getElem_cons_succ, List.setIfInBounds_toArray, List.set_cons_zero, List.set_cons_succ]
          refine wpAnyH_take (i := 7) (v := ?_) rfl (by kernel_rfl) (by kernel_rfl) (by kernel_rfl) (fun _ _ _ h => h) (Or.inl ⟨by rfl, ?yg7⟩) (by assumption) ?qg7
          case yg7 => (intro wz hSw; (try dsimp only at hSw); go_simp <;> with_reducible rfl)
          try simp only [Act.put, List.getElem_toArray, List.getElem_cons_zero, List.getElem_cons_succ, List.setIfInBounds_toArray, List.set_cons_zero, List.set_cons_succ]
          refine wpAnyH_take (i := 8) (v := ?_) rfl (by kernel_rfl) (by kernel_rfl) (by kernel_rfl) (fun _ _ _ h => h) (Or.inl ⟨by rfl, ?yg8⟩) (by assumption) ?qg8
          case yg8 => (intro wz hSw; (try dsimp only at hSw); go_simp <;> with_reducible rfl)
          try simp only [Act.put, List.getElem_toArray, List.getElem_cons_zero, List.getElem_cons_succ, List.setIfInBounds_toArray, List.set_cons_zero, List.set_cons_succ]
          refine wpAnyH_ready (rs := [9]) (by kernel_rfl) (by simp) ?_
          refine AllReadyH.cons rfl (fun K hK => ?_) AllReadyH.nil
          go_simp
          refine (HWR.out Y.drew (HAY2.out.drew 1)).mono ?_
          rintro e w3 ⟨rfl, ha⟩
          have HA3 : Hid (Aft Y w3) := Lib.hid (((Aft.refl Y).drew 1).trans ha)
          clear ha HWR
          try go_wp2_with fail
          refine hK.out _ _ (HCY.out _ HA3.out) (fun hHeld1 => ?_)
          clear hK K
          try simp only [Act.put, List.getElem_toArray, List.getElem_cons_zero, List.getElem_cons_succ, List.setIfInBounds_toArray, List.set_cons_zero, List.set_cons_succ]
          refine wpAnyH_take (i := 10) (v := ?_) rfl (by kernel_rfl) (by kernel_rfl) (by kernel_rfl) (fun _ _ _ h => h) (Or.inl ⟨by rfl, ?yg10⟩) (by assumption) ?qg10
          case yg10 => (intro wz hSw; (try dsimp only at hSw); go_simp <;> with_reducible rfl)
          try simp only [Act.put, List.getElem_toArray, List.getElem_cons_zero, List.getElem_cons_succ, List.setIfInBounds_toArray, List.set_cons_zero, List.set_cons_succ]
          refine wpAnyH_take (i := 11) (v := ?_) rfl (by kernel_rfl) (by kernel_rfl) (by kernel_rfl) (fun _ _ _ h => h) (Or.inl ⟨by rfl, ?yg11⟩) (by assumption) ?qg11
          case yg11 => (intro wz hSw; (try dsimp only at hSw); go_simp <;> with_reducible rfl)
          try simp only [Act.put, List.getElem_toArray, List.getElem_cons_zero, List.getElem_cons_succ, List.setIfInBounds_toArray, List.set_cons_zero, List.set_cons_succ]
          refine wpAnyH_take (i := 12) (v := ?_) rfl (by kernel_rfl) (by kernel_rfl) (by kernel_rfl) (fun _ _ _ h => h) (Or.inl ⟨by rfl, ?yg12⟩) (by assumption) ?qg12
          case yg12 => (intro wz hSw; (try dsimp only at hSw); go_simp <;> with_reducible rfl)
          try simp only [Act.put, List.getElem_toArray, List.getElem_cons_zero, List.getElem_cons_succ, List.setIfInBounds_toArray, List.set_cons_zero, List.set_cons_succ]
          refine wpAnyH_done (by kernel_rfl) ?_ _
          clear hHeld0 hHeld1 HCY HBY HBX
          go_wp2_with fail
          go_ret
          exact ⟨ret_bool HR3.out.symm, (HA.out.trans HAY.out).trans HA3.out⟩
        · have e3 : (ph == 3) = false := by rw [beq_eq_false_iff_ne]; exact h3
          have HR3 : Hid (r = false) := Lib.hid (by rw [HR2.out, decide_eq_false h3]; rfl)
          refine wpAnyH_take (i := 0) (v := ?_) rfl (by kernel_rfl) (by kernel_rfl) (by kernel_rfl) (fun _ _ _ h => h) (Or.inl ⟨by rfl, ?yf0⟩) (by assumption) ?qf0
          case yf0 => (intro wz hSw; (try dsimp only at hSw); go_simp <;> with_reducible rfl)
          try simp only [Act.put, List.getElem_toArray, List.getElem_cons_zero, List.setIfInBounds_toArray, List.set_cons_zero, List.set_cons_succ]
          refine wpAnyH_take (i := 1) (v := ?_) rfl (by kernel_rfl) (by kernel_rfl) (by kernel_rfl) (fun _ _ _ h => h) (Or.inl ⟨by rfl, ?yf1⟩) (by assumption) ?qf1
          case yf1 => (intro wz hSw; (try dsimp only at hSw); go_simp <;> with_reducible rfl)
          try simp only [Act.put, List.getElem_toArray, List.getElem_cons_zero, List.getElem_cons_succ, List.setIfInBounds_toArray, List.set_cons_zero, List.set_cons_succ]
          refine wpAnyH_take (i := 2) (v := ?_) rfl (by kernel_rfl) (by kernel_rfl) (by kernel_rfl) (fun _ _ _ h => h) (Or.inl ⟨by rfl, ?yf2⟩) (by assumption) ?qf2
          case yf2 => (intro wz hSw; (try dsimp only at hSw); go_simp <;> with_reducible rfl)
          try simp only [Act.put, List.getElem_toArray, List.getElem_cons_zero, List.getElem_cons_succ, List.setIfInBounds_toArray, List.set_cons_zero, List.set_cons_succ]
          refine wpAnyH_take (i := 3) (v := undef) rfl (by kernel_rfl) (by kernel_rfl) (by kernel_rfl) (fun _ _ _ h => h) (Or.inr ⟨by rfl, rfl⟩) (by assumption) ?qf3
          try simp only [Act.put, List.getElem_toArray, List.getElem_cons_zero, List.getElem_cons_succ, List.setIfInBounds_toArray, List.set_cons_zero, List.set_cons_succ]
          refine wpAnyH_take (i := 4) (v := undef) rfl (by kernel_rfl) (by kernel_rfl) (by kernel_rfl) (fun _ _ _ h => h) (Or.inr ⟨by rfl, rfl⟩) (by assumption) ?qf4
          try simp only [Act.put, List.getElem_toArray, List.getElem_cons_zero, List.getElem_cons_succ, List.setIfInBounds_toArray, List.set_cons_zero, List.set_cons_succ]
          refine wpAnyH_take (i := 5) (v := undef) rfl (by kernel_rfl) (by kernel_rfl) (by kernel_rfl) (fun _ _ _ h => h) (Or.inr ⟨by rfl, rfl⟩) (by assumption) ?qf5
          try simp only [Act.put, List.getElem_toArray, List.getElem_cons_zero, List.getElem_cons_succ, List.setIfInBounds_toArray, List.set_cons_zero, List.set_cons_succ]
          refine wpAnyH_take (i := 6) (v := undef) rfl (by kernel_rfl) (by kernel_rfl) (by kernel_rfl) (fun _ _ _ h => h) (Or.inr ⟨by rfl, rfl⟩) (by assumption) ?qf6
          try simp only [Act.put, List.getElem_toArray, List.getElem_cons_zero, List.getElem_cons_succ, List.setIfInBounds_toArray, List.set_cons_zero, List.set_cons_succ]
          refine wpAnyH_take (i := 7) (v := undef) rfl (by kernel_rfl) (by kernel_rfl) (by kernel_rfl) (fun _ _ _ h => h) (Or.inr ⟨by rfl, rfl⟩) (by assumption) ?qf7
          try simp only [Act.put, List.getElem_toArray, List.getElem_cons_zero, List.getElem_cons_succ, List.setIfInBounds_toArray, List.set_cons_zero, List.set_cons_succ]
          refine wpAnyH_take (i := 8) (v := undef) rfl (by kernel_rfl) (by kernel_rfl) (by kernel_rfl) (fun _ _ _ h => h) (Or.inr ⟨by rfl, rfl⟩) (by assumption) ?qf8
          try simp only [Act.put, List.getElem_toArray, List.getElem_cons_zero, List.getElem_cons_succ, List.setIfInBounds_toArray, List.set_cons_zero, List.set_cons_succ]
          refine wpAnyH_take (i := 9) (v := undef) rfl (by kernel_rfl) (by kernel_rfl) (by kernel_rfl) (fun _ _ _ h => h) (Or.inr ⟨by rfl, rfl⟩) (by assumption) ?qf9
          try simp only [Act.put, List.getElem_toArray, List.getElem_cons_zero, List.getElem_cons_succ, List.setIfInBounds_toArray, List.set_cons_zero, List.set_cons_succ]
          refine wpAnyH_take (i := 10) (v := undef) rfl (by kernel_rfl) (by kernel_rfl) (by kernel_rfl) (fun _ _ _ h => h) (Or.inr ⟨by rfl, rfl⟩) (by assumption) ?qf10
          try simp only [Act.put, List.getElem_toArray, List.getElem_cons_zero, List.getElem_cons_succ, List.setIfInBounds_toArray, List.set_cons_zero, List.set_cons_succ]
          refine wpAnyH_take (i := 11) (v := ?_) rfl (by kernel_rfl) (by kernel_rfl) (by kernel_rfl) (fun _ _ _ h => h) (Or.inl ⟨by rfl, ?yf11⟩) (by assumption) ?qf11
          case yf11 => (intro wz hSw; (try dsimp only at hSw); go_simp <;> with_reducible rfl)
          try simp only [Act.put, List.getElem_toArray, List.getElem_cons_zero, List.getElem_cons_succ, List.setIfInBounds_toArray, List.set_cons_zero, List.set_cons_succ]
          refine wpAnyH_take (i := 12) (v := ?_) rfl (by kernel_rfl) (by kernel_rfl) (by kernel_rfl) (fun _ _ _ h => h) (Or.inl ⟨by rfl, ?yf12⟩) (by assumption) ?qf12
          case yf12 => (intro wz hSw; (try dsimp only at hSw); go_simp <;> with_reducible rfl)
          try simp only [Act.put, List.getElem_toArray, List.getElem_cons_zero, List.getElem_cons_succ, List.setIfInBounds_toArray, List.set_cons_zero, List.set_cons_succ]
          refine wpAnyH_done (by kernel_rfl) ?_ _
          clear hHeld0 HCY HBY HBX HWR
          go_wp2_with fail
          go_ret
          exact ⟨ret_bool HR3.out.symm, (HA.out.trans HAY.out).drew 1⟩
  · have HRF : Hid (r = false) := Lib.hid (by
      rw [HBD.out]
      cases d with
      | false => rfl
      | true =>
        cases xr with
        | false => rfl
        | true =>
          by_cases h3 : xt = 0
          · simp [h3]
          · have h4 : xt = id := Classical.byContradiction fun h4 => hsh ⟨rfl, rfl, h3, h4⟩
            simp [h4])
    have HW : Hid (∀ W, W = X → Aft w W) := Lib.hid fun W hW => hW ▸ HA.out
    clear HBX HFD HBD
    cases d with
    | false =>
      go_enter Try.func16, Try.ntmps16
      go_wp2_with fail
      go_ret
      exact ⟨ret_bool HRF.out.symm, HW.out _ HXE.out⟩
    | true =>
      cases xr with
      | false =>
        go_enter Try.func16, Try.ntmps16
        go_wp2_with fail
        go_ret
        exact ⟨ret_bool HRF.out.symm, HW.out _ HXE.out⟩
      | true =>
        by_cases h3 : xt = 0
        · subst h3
          clear hsh
          go_enter Try.func16, Try.ntmps16
          go_wp2_with fail
          go_ret
          exact ⟨ret_bool HRF.out.symm, HW.out _ HXE.out⟩
        · have e3 : (xt == 0) = false := by rw [beq_eq_false_iff_ne]; exact h3
          have h4 : xt = id := Classical.byContradiction fun h4 => hsh ⟨rfl, rfl, h3, h4⟩
          subst h4
          clear hsh h3
          go_enter Try.func16, Try.ntmps16
          go_wp2_with fail
          go_ret
          exact ⟨ret_bool HRF.out.symm, HW.out _ HXE.out⟩
end Go.Proofs.Ythmhgngfealccaa.Off
namespace Go.Proofs.Ythmhgngfealccaa.Off
open Go.ChangeShapes Go.WideShapes Go.ChangeAt Go.RowKit Base F Tx Hi Go.Sort
set_option maxRecDepth 100000 in
set_option maxHeartbeats 16000000 in
theorem rOf_any {v u : Value} {h : Hist} (w : World) (hh : HistV w v u h) (hs : HistSm h) (ph : Int) : Calls Try.prog 6 #[.agg #[v, u], .int .i64 ph] w (BadsP (badsOf h ph) w) := by
  obtain ⟨p, c, hv, _, hlm⟩ := hh.1.form
  obtain ⟨q, d, hu, _, hlm2⟩ := hh.2.form
  subst hv hu
  obtain ⟨X, hX⟩ : ∃ X, X = w.alloc (.cells #[.slice p h.txs.length c, .slice q h.ords.length d] 25) := ⟨_, rfl⟩
  have HA : Hid (Aft w X) := Lib.hid (by rw [hX]; exact Aft.one _)
  have HB : Hid (∀ W, Aft X W → W.cell? ⟨w.heap.size, 0, none⟩ = some (.slice p h.txs.length c) ∧ W.cell? ⟨w.heap.size, 1, none⟩ = some (.slice q h.ords.length d)) := Lib.hid fun W hW => by
    have e : X.heap[w.heap.size]? = some (.cells #[.slice p h.txs.length c, .slice q h.ords.length d] 25) := by rw [hX]; exact heap_alloc_at _ _ _ rfl
    have := (hW.block _ (heap_lt e)).trans e
    simp [World.cell?, this]
  have HBL : Hid (w.heap.size < X.heap.size) := Lib.hid (by rw [hX]; simp)
  have HR := Lib.hid (rrightH_any X (hh.below HA.out) hs)
  have HSM := Lib.hid hs
  have HT := Lib.hid hh.1
  have HBD : Hid (∀ W (id : Int) (d1 : Bool) (sp : Option Addr) (sc : Nat) (l : List Opr) (i : Nat), Aft X W → OpsV w (.slice sp l.length sc) l → i < l.length → Calls Try.prog 16 #[.agg #[.slice p h.txs.length c, .slice q h.ords.length d], .agg #[.int .i64 id, .bool d1, .slice sp l.length sc], .int .i64 (i : Int), .int .i64 ph] W (BoolNew (badB h ⟨id, d1, l⟩ (l.getD i Opr.zero) ph) W)) := Lib.hid fun W id d1 sp sc l i hW ho hi => rbad_any W (hh.below (HA.out.trans hW)) hs (ho.below (HA.out.trans hW)) i hi ph
  have HRD : Hid (badsOf h ph = if rightH h then badsH h ph h.txs else []) := Lib.hid rfl
  have HE : Hid (∀ v1 w', Bads 0 w' v1 (badsOf h ph) → (∃ p c, v1 = .slice p (badsOf h ph).length c) → Aft w w' → BadsP (badsOf h ph) w (.returned v1) w') := Lib.hid fun v1 w' h1 h2 h3 => ⟨v1, rfl, h1, h2, h3⟩
  generalize BadsP (badsOf h ph) w = Post at HE ⊢
  obtain ⟨n1, hn1⟩ : ∃ n, n = h.txs.length := ⟨_, rfl⟩
  obtain ⟨n2, hn2⟩ : ∃ n, n = h.ords.length := ⟨_, rfl⟩
  rw [← hn1] at hX HB hlm HBD HR
  rw [← hn2] at hX HB hlm2 HBD HR
  have HN1 := Lib.hid hn1
  rw [← hn1, ← hn2]
  clear hh hs hn1 hn2
  generalize rightH h = r at HR HRD
  cases r with
  | false =>
    have HNIL : Hid (badsOf h ph = []) := Lib.hid (by rw [HRD.out]; rfl)
    clear HRD HBD
    go_enter Try.func6, Try.ntmps6
    go_wp2_with fail
    rw [← hX]
    refine HR.out.mono ?_
    rintro e w2 ⟨rfl, ha⟩
    have HA2 := Lib.hid (HA.out.trans ha)
    clear ha hX HB HR
    go_wp2_with fail
    exact HE.out _ _ (by rw [HNIL.out]; exact Bads.nil) (by rw [HNIL.out]; exact ⟨none, 0, rfl⟩) HA2.out
  | true =>
    have HRE : Hid (badsOf h ph = badsH h ph h.txs) := Lib.hid (by rw [HRD.out]; rfl)
    clear HRD
    go_enter Try.func6, Try.ntmps6
    go_wp2_with fail
    rw [← hX]
    refine HR.out.mono ?_
    rintro e wB ⟨rfl, ha⟩
    have HAB := Lib.hid ha
    obtain ⟨e0, e1⟩ := HB.out _ ha
    clear ha hX HR
    have HR0 : Hid (RW wB wB (.slice none 0 0) (badsH h ph (h.txs.take 0))) := Lib.hid ⟨Aft.refl _, by simp [badsH]; exact OwnBad.nil _ _⟩
    go_wp2_with fail
    go_loopw [5, 16] (fun s5 s16 wr => ∃ k : Nat, s16 = .int .i64 (k : Int) ∧ k ≤ n1 ∧ Hid (RW wB wr s5 (badsH h ph (h.txs.take k)))) (fun _ s16 _ => n1 - (intOf s16).toNat)
    case atStart => exact ⟨0, rfl, Nat.zero_le _, HR0⟩
    case round =>
      clear HR0 e0 e1
      obtain ⟨k, rfl, hk, HS⟩ := hrel
      obtain ⟨wA, hwA⟩ : ∃ wA, wA = wr := ⟨_, rfl⟩
      subst hwA
      by_cases hlt : k < n1
      · have hltx : k < h.txs.length := by rw [← HN1.out]; exact hlt
        obtain ⟨g, o, sp, sc, rfl, hg, c0, c1, c2, hs⟩ := HT.out.at_ hltx
        have HAW := Lib.hid ((HA.out.trans HAB.out).trans HS.out.1)
        have c0 := HAW.out.cell hg c0
        have c1 := HAW.out.cell hg c1
        have c2 := HAW.out.cell hg c2
        have hg := Nat.lt_of_lt_of_le hg HAW.out.size
        have HTK := Lib.hid (badsH_snoc h ph h.txs k hltx)
        have HLK := Lib.hid (HSM.out.ops _ (getD_mem hltx))
        have HLN : Hid ((badsH h ph (h.txs.take k)).length ≤ 100 * 1000) := Lib.hid (Nat.le_trans (badsH_len h ph _ fun t ht => HSM.out.ops t (List.mem_of_mem_take ht)) (Nat.mul_le_mul_left _ (by rw [List.length_take]; have := HSM.out.num; omega)))
        have hkI : (k : Int) < (n1 : Int) := by omega
        generalize h.txs.getD k Txn.zero = t at c0 c1 c2 hs HTK HLK
        obtain ⟨ti, td, tl⟩ := t
        simp only at c0 c1 c2 hs HTK HLK
        have HTSN := Lib.hid (fun j hj => badsT_snoc h ⟨ti, td, tl⟩ ph tl 0 j hj)
        have HTL := Lib.hid (fun l => badsT_len h ⟨ti, td, tl⟩ ph l 0)
        have HT0 : Hid (badsT h ⟨ti, td, tl⟩ ph 0 (tl.take 0) = []) := Lib.hid (by simp [badsT])
        have HBK := Lib.hid (fun W i (hW : Aft X W) hi => HBD.out W ti td sp sc tl i hW hs hi)
        have HOP : Hid (∀ Y, Aft w Y → Oprs 0 Y (.slice sp tl.length sc) tl) := Lib.hid fun Y hY => (hs.below hY).2
        generalize badsH h ph (h.txs.take k) = zs0 at HS HTK HLN
        generalize hRT : badsT h ⟨ti, td, tl⟩ ph 0 = RT at HTK HTSN HTL HT0
        clear hRT hs
        obtain ⟨bx, hbx⟩ : ∃ o, o = boxT ti td (.slice sp tl.length sc) := ⟨_, rfl⟩
        have HI0 : Hid (∀ W, W = wA.alloc (boxT ti td (.slice sp tl.length sc)) → RW wB W u5 (zs0 ++ RT (tl.take 0)) ∧ W.heap[wA.heap.size]? = some bx) := Lib.hid fun W hW => by
          subst hW
          exact ⟨by rw [HT0.out, List.append_nil]; exact HS.out.lay _, by rw [hbx]; exact heap_alloc_at _ _ _ rfl⟩
        unfold boxT at HI0
        have HBC : Hid (∀ W : World, W.heap[wA.heap.size]? = some bx → W.cell? ⟨wA.heap.size, 0, none⟩ = some (.int .i64 ti) ∧ W.cell? ⟨wA.heap.size, 1, none⟩ = some (.bool td) ∧ W.cell? ⟨wA.heap.size, 2, none⟩ = some (.slice sp tl.length sc)) := Lib.hid fun W hW => by
          rw [hbx] at hW
          exact (cellsT hW).2.1
        have HBT : Hid (∃ cs, bx = .cells cs 43) := Lib.hid ⟨_, hbx⟩
        obtain ⟨tn, htn⟩ : ∃ n, n = tl.length := ⟨_, rfl⟩
        rw [← htn] at c2 HOP HI0 HBC HBK
        have HTN := Lib.hid htn
        have htl : tn ≤ 100 := by rw [htn]; exact HLK.out
        have hwA : w.heap.size < wA.heap.size := Nat.lt_of_lt_of_le (Nat.lt_of_lt_of_le HBL.out HAB.out.size) HS.out.1.size
        clear hbx htn HS HT0 HLK
        go_wp2_with fail
        go_loopw [5, 23] (fun s5 s23 wr => ∃ j : Nat, s23 = .int .i64 (j : Int) ∧ j ≤ tn ∧ Hid (RW wB wr s5 (zs0 ++ RT (tl.take j)) ∧ wr.heap[wA.heap.size]? = some bx)) (fun _ s23 _ => tn - (intOf s23).toNat)
        case atStart => exact ⟨0, rfl, Nat.zero_le _, Lib.hid (HI0.out _ rfl)⟩
        case round =>
          clear HI0
          obtain ⟨j, rfl, hj, HS⟩ := hrel
          by_cases hlt2 : j < tn
          · have hltl : j < tl.length := by rw [← HTN.out]; exact hlt2
            have HAW2 := Lib.hid ((HA.out.trans HAB.out).trans HS.out.1.1)
            obtain ⟨p', c', e, _, hc⟩ := (HOP.out _ HAW2.out).open_
            injection e with ea eb ec
            subst ea ec
            clear eb
            obtain ⟨g2, o2, rfl, _, hg2, d0, d1, d2, d3⟩ := hc j hltl
            clear hc
            have HSN := Lib.hid (HTSN.out j hltl)
            have HLJ : Hid ((zs0 ++ RT (tl.take j)).length ≤ 200000) := Lib.hid (by
              have h1 := HLN.out
              have h2 := HTL.out (tl.take j)
              rw [List.length_take] at h2
              rw [List.length_append]
              omega)
            have hjI : (j : Int) < (tn : Int) := by omega
            have HBJ := Lib.hid (fun W (hW : Aft X W) => HBK.out W j hW hlt2)
            generalize tl.getD j Opr.zero = x at d0 d1 d2 d3 HSN HBJ
            have HOF := Lib.hid (fun W => rof_any x W)
            obtain ⟨vv, hvv⟩ : ∃ v, v = verO x := ⟨_, rfl⟩
            unfold mkBad at HSN
            rw [← hvv, Nat.zero_add] at HSN
            rw [← hvv] at HOF
            obtain ⟨vt, vk, vn⟩ := vv
            clear hvv
            obtain ⟨xr, xk, xt, xn⟩ := x
            dsimp only at d0 d1 d2 d3
            unfold verV oprV at HOF
            simp only at HSN HOF
            generalize badB h ⟨ti, td, tl⟩ ⟨xr, xk, xt, xn⟩ ph = bb at HBJ HSN
            obtain ⟨Y, hY⟩ : ∃ Y, Y = wr.alloc (boxO ⟨xr, xk, xt, xn⟩) := ⟨_, rfl⟩
            have HW3 : Hid (∀ W, Aft Y W → (RW wB W u5 (zs0 ++ RT (tl.take j)) ∧ W.heap[wA.heap.size]? = some bx) ∧ W.heap[wr.heap.size]? = some (boxO ⟨xr, xk, xt, xn⟩)) := Lib.hid fun W hW => by
              have h0 : Aft wr Y := by rw [hY]; exact Aft.one _
              have h1 : Aft wr W := h0.trans hW
              have e : Y.heap[wr.heap.size]? = some (boxO ⟨xr, xk, xt, xn⟩) := by rw [hY]; exact heap_alloc_at _ _ _ rfl
              exact ⟨⟨HS.out.1.aft h1, (h1.block _ (heap_lt HS.out.2)).trans HS.out.2⟩, (hW.block _ (heap_lt e)).trans e⟩
            have HXY : Hid (Aft X Y) := Lib.hid (by rw [hY]; exact (HAB.out.trans HS.out.1.1).lay _)
            obtain ⟨e0, e1⟩ : wr.cell? ⟨w.heap.size, 0, none⟩ = some (.slice (some ⟨g, o, none⟩) n1 c) ∧ wr.cell? ⟨w.heap.size, 1, none⟩ = some (.slice q n2 d) := HB.out wr (HAB.out.trans HS.out.1.1)
            obtain ⟨f0, f1, f2⟩ := HBC.out wr HS.out.2
            have hbxl := heap_lt HS.out.2
            have hwl : w.heap.size < wr.heap.size := by omega
            clear HS
            unfold boxO at hY
            go_wp2_with fail
            rw [← hY]
            refine (HBJ.out Y HXY.out).mono ?_
            rintro e w4 ⟨rfl, ha⟩
            have HA4 := Lib.hid ha
            clear ha hY HBJ f0 f1 f2 e0 e1
            cases bb with
            | false =>
              have HR : Hid (RW wB w4 u5 (zs0 ++ RT (tl.take (j + 1))) ∧ w4.heap[wA.heap.size]? = some bx) := Lib.hid ⟨by rw [HSN.out]; simpa using (HW3.out _ HA4.out).1.1, (HW3.out _ HA4.out).1.2⟩
              clear HSN HW3 HOF
              go_wp2_with fail
              go_roundw
              case rel => exact ⟨j + 1, by go_num, by omega, HR⟩
              case measure => simp [intOf]; omega
            | true =>
              have HSN2 : Hid (zs0 ++ RT (tl.take (j + 1)) = (zs0 ++ RT (tl.take j)) ++ [⟨ti, (j : Int), vt, vk, vn⟩]) := Lib.hid (by rw [HSN.out, if_pos rfl, List.append_assoc])
              have HCL : Hid (∀ W, Aft Y W → W.cell? ⟨wA.heap.size, 0, none⟩ = some (.int .i64 ti) ∧ W.cell? ⟨wr.heap.size, 0, none⟩ = some (.bool xr) ∧ W.cell? ⟨wr.heap.size, 1, none⟩ = some (.int .i64 xk) ∧ W.cell? ⟨wr.heap.size, 2, none⟩ = some (.int .i64 xt) ∧ W.cell? ⟨wr.heap.size, 3, none⟩ = some (.int .i64 xn)) := Lib.hid fun W hW => ⟨(HBC.out W (HW3.out W hW).1.2).1, (cellsO (HW3.out W hW).2).2.1⟩
              clear HSN
              go_upto_region 11 with fail
              refine wp_region_held_drew (S := fun Z => Z.cell? ⟨wA.heap.size, 0, none⟩ = some (.int .i64 ti) ∧ Z.cell? ⟨wr.heap.size, 0, none⟩ = some (.bool xr) ∧ Z.cell? ⟨wr.heap.size, 1, none⟩ = some (.int .i64 xk) ∧ Z.cell? ⟨wr.heap.size, 2, none⟩ = some (.int .i64 xt) ∧ Z.cell? ⟨wr.heap.size, 3, none⟩ = some (.int .i64 xn)) (by kernel_rfl) (HCL.out _ (HA4.out.drew 1)) (fun hHeld0 => ?_)
              refine wpAnyH_take (i := 0) (v := ?_) rfl (by kernel_rfl) (by kernel_rfl) (by kernel_rfl) (fun _ _ _ h => h) (Or.inl ⟨by rfl, ?ym0⟩) (by assumption) ?qm0
              case ym0 => (intro wz hSw; (try dsimp only at hSw); go_simp <;> with_reducible rfl)
              try simp only [Act.put, List.getElem_toArray, List.getElem_cons_zero, List.setIfInBounds_toArray, List.set_cons_zero, List.set_cons_succ]
              refine wpAnyH_take (i := 1) (v := ?_) rfl (by kernel_rfl) (by kernel_rfl) (by kernel_rfl) (fun _ _ _ h => h) (Or.inl ⟨by rfl, ?ym1⟩) (by assumption) ?qm1
              case ym1 => (intro wz hSw; (try dsimp only at hSw); go_simp <;> with_reducible rfl)
              try simp only [Act.put, List.getElem_toArray, List.getElem_cons_zero, List.getElem_cons_succ, List.setIfInBounds_toArray, List.set_cons_zero, List.set_cons_succ]
              refine wpAnyH_take (i := 2) (v := ?_) rfl (by kernel_rfl) (by kernel_rfl) (by kernel_rfl) (fun _ _ _ h => h) (Or.inl ⟨by rfl, ?ym2⟩) (by assumption) ?qm2
              case ym2 => (intro wz hSw; (try dsimp only at hSw); go_simp <;> with_reducible rfl)
              try simp only [Act.put, List.getElem_toArray, List.getElem_cons_zero, List.getElem_cons_succ, List.setIfInBounds_toArray, List.set_cons_zero, List.set_cons_succ]
              refine wpAnyH_take (i := 3) (v := ?_) rfl (by kernel_rfl) (by kernel_rfl) (by kernel_rfl) (fun _ _ _ h => h) (Or.inl ⟨by rfl, ?ym3⟩) (by assumption) ?qm3
              case ym3 => (intro wz hSw; (try dsimp only at hSw); go_simp <;> with_reducible rfl)
              try simp only [Act.put, List.getElem_toArray, List.getElem_cons_zero, List.getElem_cons_succ, List.setIfInBounds_toArray, List.set_cons_zero, List.set_cons_succ]
              refine wpAnyH_take (i := 4) (v := ?_) rfl (by kernel_rfl) (by kernel_rfl) (by kernel_rfl) (fun _ _ _ h => h) (Or.inl ⟨by rfl, ?ym4⟩) (by assumption) ?qm4
              case ym4 => (intro wz hSw; (try dsimp only at hSw); go_simp <;> with_reducible rfl)
              try simp only [Act.put, List.getElem_toArray, List.getElem_cons_zero, List.getElem_cons_succ, List.setIfInBounds_toArray, List.set_cons_zero, List.set_cons_succ]
              refine wpAnyH_ready (rs := [5]) (by kernel_rfl) (by simp) ?_
              refine AllReadyH.cons rfl (fun K hK => ?_) AllReadyH.nil
              go_simp
              refine (HOF.out _).mono ?_
              rintro e w5 ⟨rfl, ha⟩
              have HA5 : Hid (Aft Y w5) := Lib.hid ((HA4.out.drew 1).trans ha)
              clear ha HOF
              try go_wp2_with fail
              refine hK.out _ _ (HCL.out _ HA5.out) (fun hHeld1 => ?_)
              clear hK K
              try simp only [Act.put, List.getElem_toArray, List.getElem_cons_zero, List.getElem_cons_succ, List.setIfInBounds_toArray, List.set_cons_zero, List.set_cons_succ]
              refine wpAnyH_take (i := 6) (v := ?_) rfl (by kernel_rfl) (by kernel_rfl) (by kernel_rfl) (fun _ _ _ h => h) (Or.inl ⟨by rfl, ?ym6⟩) (by assumption) ?qm6
              case ym6 => (intro wz hSw; (try dsimp only at hSw); go_simp <;> with_reducible rfl)
              try simp only [Act.put, List.getElem_toArray, List.getElem_cons_zero, List.getElem_cons_succ, List.setIfInBounds_toArray, List.set_cons_zero, List.set_cons_succ]
              refine wpAnyH_ready (rs := [7]) (by kernel_rfl) (by simp) ?_
              refine AllReadyH.cons rfl (fun K hK => ?_) AllReadyH.nil
              go_simp
              obtain ⟨pp, hpp⟩ : ∃ p : Option Addr, p = some ⟨w5.heap.size, 0, none⟩ := ⟨_, rfl⟩
              obtain ⟨w6, hw6⟩ : ∃ U, U = w5.alloc (.cells #[.int .i64 ti, .int .i64 (j : Int), .int .i64 vt, .int .i64 vk, .int .i64 vn] 29) := ⟨_, rfl⟩
              have HL6 : Hid (Bads 0 w6 (.slice pp 1 1) [⟨ti, (j : Int), vt, vk, vn⟩]) := Lib.hid (by rw [hpp, hw6]; exact bad_lit ⟨ti, (j : Int), vt, vk, vn⟩ w5)
              have HA6 : Hid (Aft Y w6) := Lib.hid (by rw [hw6]; exact HA5.out.lay _)
              rw [← hpp, ← hw6]
              clear hpp hw6
              refine hK.out _ _ (HCL.out _ HA6.out) (fun hHeld2 => ?_)
              clear hK K
              try simp only [Act.put, List.getElem_toArray, List.getElem_cons_zero, List.getElem_cons_succ, List.setIfInBounds_toArray, List.set_cons_zero, List.set_cons_succ]
              refine wpAnyH_ready (rs := [8]) (by kernel_rfl) (by simp) ?_
              refine AllReadyH.cons rfl (fun K hK => ?_) AllReadyH.nil
              have H6 := Lib.hid (HW3.out _ HA6.out).1
              refine step_append_bads rfl (.tmp 33) (.tmp 40) rfl H6.out.1.1.size H6.out.1.2 (by simp [Act.eval]) HL6.out (by simp [Act.eval]) (by have := HLJ.out; simp only [List.length_append, List.length_cons, List.length_nil] at this ⊢; omega) ?_
              intro v8 w8 h8 hg8 _
              have HR : Hid (RW wB w8 v8 (zs0 ++ RT (tl.take (j + 1))) ∧ w8.heap[wA.heap.size]? = some bx) := Lib.hid ⟨by rw [HSN2.out]; exact H6.out.1.app h8 hg8, by obtain ⟨cs, hcs⟩ := HBT.out; exact (hg8.block _ (heap_lt H6.out.2) (own_not H6.out.1.2 (by rw [H6.out.2, hcs]) (by decide))).trans H6.out.2⟩
              have HC8 : Hid (w8.cell? ⟨wA.heap.size, 0, none⟩ = some (.int .i64 ti) ∧ w8.cell? ⟨wr.heap.size, 0, none⟩ = some (.bool xr) ∧ w8.cell? ⟨wr.heap.size, 1, none⟩ = some (.int .i64 xk) ∧ w8.cell? ⟨wr.heap.size, 2, none⟩ = some (.int .i64 xt) ∧ w8.cell? ⟨wr.heap.size, 3, none⟩ = some (.int .i64 xn)) := Lib.hid ⟨(HBC.out w8 HR.out.2).1, (cellsO (show w8.heap[wr.heap.size]? = some (boxO ⟨xr, xk, xt, xn⟩) from (hg8.block _ (heap_lt (HW3.out _ HA6.out).2) (own_not (t := 48) H6.out.1.2 (HW3.out _ HA6.out).2 (by decide))).trans (HW3.out _ HA6.out).2)).2.1⟩
              clear h8 hg8 H6 HL6
              refine hK.out _ _ HC8.out (fun hHeld3 => ?_)
              clear hK K
              try simp only [Act.put, List.getElem_toArray, List.getElem_cons_zero, List.getElem_cons_succ, List.setIfInBounds_toArray, List.set_cons_zero, List.set_cons_succ]
              refine wpAnyH_take (i := 9) (v := ?_) rfl (by kernel_rfl) (by kernel_rfl) (by kernel_rfl) (fun _ _ _ h => h) (Or.inl ⟨by rfl, ?ym9⟩) (by assumption) ?qm9
              case ym9 => (intro wz hSw; (try dsimp only at hSw); go_simp <;> with_reducible rfl)
              try simp only [Act.put, List.getElem_toArray, List.getElem_cons_zero, List.getElem_cons_succ, List.setIfInBounds_toArray, List.set_cons_zero, List.set_cons_succ]
              refine wpAnyH_done (by kernel_rfl) ?_ _
              clear hHeld0 hHeld1 hHeld2 hHeld3 HCL HW3 HC8 HSN2
              go_wp2_with fail
              go_roundw
              case rel => exact ⟨j + 1, by go_num, by omega, HR⟩
              case measure => simp [intOf]; omega
          · have hje : j = tn := by omega
            subst hje
            have HR : Hid (RW wB wr u5 (badsH h ph (h.txs.take (k + 1)))) := Lib.hid (by rw [HTK.out]; have := HS.out.1; rwa [HTN.out, List.take_length] at this)
            clear HS
            go_wp2_with fail
            go_roundw
            case rel => exact ⟨k + 1, by go_num, hlt, HR⟩
            case measure => simp [intOf]; omega
      · have hke : k = n1 := by omega
        subst hke
        have HR : Hid (RW wB wA u5 (badsOf h ph)) := Lib.hid (by rw [HRE.out]; have := HS.out; rwa [HN1.out, List.take_length] at this)
        have HLN : Hid ((badsOf h ph).length ≤ 9223372036854775807) := Lib.hid (by
          rw [HRE.out]
          have h1 := badsH_len h ph h.txs fun t ht => HSM.out.ops t ht
          have h2 := HSM.out.num
          omega)
        clear HS hlt hk
        go_wp2_with fail
        exact HE.out _ _ ((HR.out.2.list HLN.out).mono (Nat.zero_le _)) (by obtain ⟨p, c, e, _⟩ := (HR.out.2.list HLN.out).open_; exact ⟨p, c, e⟩) ((HA.out.trans HAB.out).trans HR.out.1)
end Go.Proofs.Ythmhgngfealccaa.Off
