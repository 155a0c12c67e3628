/-
  Histories: contract of the document's Right. Not a statement of the seat.
-/
import Derived.Test.YtcmafmdcgkpagaaGreatHead13
import Derived.Test.YtcmafmdcgkpagaaGreatHead21
import Derived.Test.YtcmafmdcgkpagaaGreatTxR3
import Derived.Test.YtcmafmdcgkpagaaGreatHead17
namespace Go.Proofs.YtcmafmdcgkpagaaGreat.Hi
open Go.ChangeShapes Go.WideShapes Go.ChangeAt Go.RowKit Base F Tx Lst Go.Sort
/-- All is right as far as the k-th transaction. -/
def P1 (h : Hist) (k : Nat) : Prop := (∀ j, j < k → rightT (h.txs.getD j Txn.zero).id (h.txs.getD j Txn.zero).ops = 0 ∧ needsB h (h.txs.getD j Txn.zero) = true) ∧ ∀ j, j + 1 < k → (h.txs.getD j Txn.zero).id < (h.txs.getD (j + 1) Txn.zero).id
theorem P1.next {h : Hist} {k : Nat} (h1 : P1 h k) (h2 : rightT (h.txs.getD k Txn.zero).id (h.txs.getD k Txn.zero).ops = 0) (h3 : needsB h (h.txs.getD k Txn.zero) = true) (h4 : ∀ j, k = j + 1 → (h.txs.getD j Txn.zero).id < (h.txs.getD k Txn.zero).id) : P1 h (k + 1) :=
  ⟨fun j hj => if e : j = k then e ▸ ⟨h2, h3⟩ else h1.1 j (by omega), fun j hj => if e : j + 1 = k then by have := h4 j e.symm; rw [e]; exact this else h1.2 j (by omega)⟩
/-- All orders are right as far as the k-th. -/
def P2 (h : Hist) (k : Nat) : Prop := ∀ j, j < k → (h.ords.getD j Ordr.zero).key = (KW h.txs).getD j 0 ∧ Om.permB (h.ords.getD j Ordr.zero).txs (wrsL h.txs (h.ords.getD j Ordr.zero).key) = true
theorem P2.next {h : Hist} {k : Nat} (h1 : P2 h k) (h2 : (h.ords.getD k Ordr.zero).key = (KW h.txs).getD k 0) (h3 : Om.permB (h.ords.getD k Ordr.zero).txs (wrsL h.txs (h.ords.getD k Ordr.zero).key) = true) : P2 h (k + 1) :=
  fun j hj => if e : j = k then e ▸ ⟨h2, h3⟩ else h1 j (by omega)
set_option maxRecDepth 100000 in
set_option maxHeartbeats 16000000 in
theorem rrightH_any {v u : Value} {h : Hist} (w : World) (hh : HistV w v u h) (hs : HistSm h) : Calls Tryz.prog 17 #[.agg #[v, u]] w (BoolNew (rightH h) w) := by
  obtain ⟨r, hr⟩ : ∃ r, r = rightH h := ⟨_, rfl⟩
  rw [← hr]
  have hN1 : ∀ k, k + 1 < h.txs.length → (h.txs.getD (k + 1) Txn.zero).id ≤ (h.txs.getD k Txn.zero).id → r = false := fun k h1 h2 => by rw [hr]; exact right_no1 h1 h2
  have hN2 : ∀ k, k < h.txs.length → rightT (h.txs.getD k Txn.zero).id (h.txs.getD k Txn.zero).ops ≠ 0 → r = false := fun k h1 h2 => by rw [hr]; exact right_no2 h1 h2
  have hN3 : ∀ k, k < h.txs.length → needsB h (h.txs.getD k Txn.zero) = false → r = false := fun k h1 h2 => by rw [hr]; exact right_no3 h1 h2
  have hN4 : h.ords.length ≠ (KW h.txs).length → r = false := fun h1 => by rw [hr]; exact right_no4 h1
  have hN5 : ∀ k, k < h.ords.length → (h.ords.getD k Ordr.zero).key ≠ (KW h.txs).getD k 0 → r = false := fun k h1 h2 => by rw [hr]; exact right_no5 h1 h2
  have hN6 : ∀ k, k < h.ords.length → Om.permB (h.ords.getD k Ordr.zero).txs (wrsL h.txs (h.ords.getD k Ordr.zero).key) = false → r = false := fun k h1 h2 => by rw [hr]; exact right_no6 h1 h2
  have hY : P1 h h.txs.length → h.ords.length = (KW h.txs).length → P2 h h.ords.length → r = true := fun h1 h2 h3 => by
    rw [hr]
    exact right_yes (by have := hs.num; omega) h1.2 h1.1 h2 h3
  have HOPS : Hid (∀ k, k < h.txs.length → (h.txs.getD k Txn.zero).ops.length ≤ 100) := Lib.hid fun k hk => hs.ops _ (getD_mem hk)
  have HOK2 : Hid (∀ k, k < h.ords.length → (h.ords.getD k Ordr.zero).txs.length ≤ 1000) := Lib.hid fun k hk => hs.ids _ (getD_memo hk)
  have HN1 := Lib.hid hN1
  have HN2 := Lib.hid hN2
  have HN3 := Lib.hid hN3
  have HN4 := Lib.hid hN4
  have HN5 := Lib.hid hN5
  have HN6 := Lib.hid hN6
  have HY := Lib.hid hY
  clear hN1 hN2 hN3 hN4 hN5 hN6 hY hr
  obtain ⟨p, c, hv, _, hlm⟩ := hh.1.form
  obtain ⟨q, d, hu, _, hlm2⟩ := hh.2.form
  subst hv hu
  have HT := Lib.hid hh.1
  have HO := Lib.hid hh.2
  have HS := Lib.hid hs
  have hnum : ¬ (4096 : Int) < (h.txs.length : Int) := by have := hs.num; omega
  obtain ⟨X, hX⟩ : ∃ X, X = w.alloc (.cells #[.slice p h.txs.length c, .slice q h.ords.length d] 25) := ⟨_, rfl⟩
  have HA : Hid (Aft w X) := Lib.hid (by rw [hX]; exact Aft.one _)
  have HB : Hid (∀ W, Aft X W → W.cell? ⟨w.heap.size, 0, none⟩ = some (.slice p h.txs.length c) ∧ W.cell? ⟨w.heap.size, 1, none⟩ = some (.slice q h.ords.length d)) := Lib.hid fun W hW => by
    have e : X.heap[w.heap.size]? = some (.cells #[.slice p h.txs.length c, .slice q h.ords.length d] 25) := by rw [hX]; exact heap_alloc_at _ _ _ rfl
    have := (hW.block _ (heap_lt e)).trans e
    simp [World.cell?, this]
  have HBL : Hid (w.heap.size < X.heap.size) := Lib.hid (by rw [hX]; simp)
  have HKE : Hid (∀ W, Aft X W → Calls Tryz.prog 26 #[.agg #[.slice p h.txs.length c, .slice q h.ords.length d]] W (fun e w' => ∃ v1, e = .returned v1 ∧ Ints 0 w' v1 (KW h.txs) ∧ (∃ p c, v1 = .slice p (KW h.txs).length c) ∧ Aft W w')) := Lib.hid fun W hW => rkeysH_any W (hh.below (HA.out.trans hW)) hs
  have HND : Hid (∀ W (id : Int) (d1 : Bool) (sp : Option Addr) (sc : Nat) (l : List Opr), Aft X W → OpsV w (.slice sp l.length sc) l → l.length ≤ 100 → Calls Tryz.prog 25 #[.agg #[.slice p h.txs.length c, .slice q h.ords.length d], .agg #[.int .i64 id, .bool d1, .slice sp l.length sc]] W (BoolNew (needsB h ⟨id, d1, l⟩) W)) := Lib.hid fun W id d1 sp sc l hW ho hl => rneedsH_any W (hh.below (HA.out.trans hW)) (fun x hx => by have := hs.ops x hx; omega) id d1 (ho.below (HA.out.trans hW)) (by omega)
  have HRT : Hid (∀ W (id : Int) (d1 : Bool) (sp : Option Addr) (sc : Nat) (l : List Opr), Aft X W → OpsV w (.slice sp l.length sc) l → l.length ≤ 100 → Calls Tryz.prog 24 #[.agg #[.int .i64 id, .bool d1, .slice sp l.length sc]] W (IntNew (rightT id l) W)) := Lib.hid fun W id d1 sp sc l hW ho hl => by
    obtain ⟨⟨p', c', e, hc⟩, _⟩ := (show _ from ho)
    injection e with _ _ e3
    exact rright_any id d1 W ((ho.below (HA.out.trans hW)).2) (by rw [e3]; exact hc) (by omega)
  have HWS : Hid (∀ W key, Aft X W → Calls Tryz.prog 28 #[.agg #[.slice p h.txs.length c, .slice q h.ords.length d], .int .i64 key] W (fun e w' => ∃ v1, e = .returned v1 ∧ Ints 0 w' v1 (wrsL h.txs key) ∧ (∃ p c, v1 = .slice p (wrsL h.txs key).length c) ∧ Aft W w')) := Lib.hid fun W key hW => rwriters_any key W (hh.below (HA.out.trans hW)) hs
  have HP0 : Hid (P1 h 0) := Lib.hid ⟨fun j hj => by omega, fun j hj => by omega⟩
  obtain ⟨n1, hn1⟩ : ∃ n, n = h.txs.length := ⟨_, rfl⟩
  obtain ⟨n2, hn2⟩ : ∃ n, n = h.ords.length := ⟨_, rfl⟩
  rw [← hn1] at hX HB hnum hlm HKE HND HWS HN1 HN2 HN3 HY HOPS
  rw [← hn2] at hX HB hlm2 HKE HND HWS HN4 HN5 HN6 HY HOK2
  have HE1 := Lib.hid hn1
  have HE2 := Lib.hid hn2
  clear hh hs
  rw [← hn1, ← hn2]
  clear hn1 hn2
  have HR0 : Hid (Aft X X) := Lib.hid (Aft.refl X)
  go_enter Tryz.func17, Tryz.ntmps17
  have hcX := HB.out X (Aft.refl X)
  go_wp2_with fail
  clear hcX
  go_loopw [15] (fun s15 wr => ∃ k : Nat, s15 = .int .i64 (k : Int) ∧ k ≤ n1 ∧ Hid (Aft X wr ∧ P1 h k)) (fun s15 _ => n1 - (intOf s15).toNat)
  case atStart => exact ⟨0, rfl, Nat.zero_le _, Lib.hid ⟨by rw [← hX]; exact Aft.refl X, HP0.out⟩⟩
  case round =>
    clear HP0 HR0
    obtain ⟨k, rfl, hk, HS1⟩ := hrel
    by_cases hlt : k < n1
    · have hltx : k < h.txs.length := by rw [← HE1.out]; exact hlt
      obtain ⟨g, o, sp, sc, rfl, hg, c0, c1, c2, hs1⟩ := HT.out.at_ hltx
      have hg0 := hg
      have c0 := (HA.out.trans HS1.out.1).cell hg c0
      have c1 := (HA.out.trans HS1.out.1).cell hg c1
      have c2 := (HA.out.trans HS1.out.1).cell hg c2
      have hg := Nat.lt_of_lt_of_le hg (HA.out.trans HS1.out.1).size
      have hkI : (k : Int) < (n1 : Int) := by omega
      have HOL := Lib.hid (HOPS.out k hlt)
      have HNX := Lib.hid (fun (h2 : rightT (h.txs.getD k Txn.zero).id (h.txs.getD k Txn.zero).ops = 0) (h3 : needsB h (h.txs.getD k Txn.zero) = true) h4 => HS1.out.2.next h2 h3 h4)
      have HF2 := Lib.hid (HN2.out k hlt)
      have HF3 := Lib.hid (HN3.out k hlt)
      have HPV : Hid (k = 0 ∨ ∃ j, k = j + 1 ∧ wr.cell? ⟨g, o + j * 3, none⟩ = some (.int .i64 (h.txs.getD j Txn.zero).id) ∧ ((h.txs.getD k Txn.zero).id ≤ (h.txs.getD j Txn.zero).id → r = false)) := Lib.hid (by
        cases k with
        | zero => exact .inl rfl
        | succ j =>
          obtain ⟨g', o', _, _, e, hg', d0, _⟩ := HT.out.at_ (k := j) (by omega)
          injection e with e
          injection e with e1 e2
          subst e1 e2
          exact .inr ⟨j, rfl, (HA.out.trans HS1.out.1).cell hg' d0, HN1.out j hlt⟩)
      have HSA := Lib.hid HS1.out.1
      generalize h.txs.getD k Txn.zero = t at c0 c1 c2 hs1 HOL HNX HF2 HF3 HPV
      obtain ⟨ti, td, tl⟩ := t
      simp only at c0 c1 c2 hs1 HOL HNX HF2 HF3 HPV
      obtain ⟨Y, hY⟩ : ∃ Y, Y = wr.alloc (.cells #[.int .i64 ti, .bool td, .slice sp tl.length sc] 42) := ⟨_, rfl⟩
      have HAY : Hid (Aft X Y) := Lib.hid (by rw [hY]; exact HSA.out.lay _)
      have HCY : Hid (∀ W, Aft Y W → (W.cell? ⟨w.heap.size, 0, none⟩ = some (.slice (some ⟨g, o, none⟩) n1 c) ∧ W.cell? ⟨w.heap.size, 1, none⟩ = some (.slice q n2 d)) ∧ W.cell? ⟨wr.heap.size, 0, none⟩ = some (.int .i64 ti) ∧ W.cell? ⟨wr.heap.size, 1, none⟩ = some (.bool td) ∧ W.cell? ⟨wr.heap.size, 2, none⟩ = some (.slice sp tl.length sc)) := Lib.hid fun W hW => by
        have e : Y.heap[wr.heap.size]? = some (.cells #[.int .i64 ti, .bool td, .slice sp tl.length sc] 42) := by rw [hY]; exact heap_alloc_at _ _ _ rfl
        have := (hW.block _ (heap_lt e)).trans e
        exact ⟨HB.out W (HAY.out.trans hW), by simp [World.cell?, this]⟩
      have HPC : Hid (∀ (a b : Nat) z, wr.cell? ⟨a, b, none⟩ = some z → a < wr.heap.size → ∀ W, Aft Y W → W.cell? ⟨a, b, none⟩ = some z) := Lib.hid fun a b z hz ha W hW => by
        have h1 : Aft wr Y := by rw [hY]; exact Aft.one _
        exact (h1.trans hW).cell ha hz
      have HRW : Hid (∀ W, Aft Y W → Calls Tryz.prog 24 #[.agg #[.int .i64 ti, .bool td, .slice sp tl.length sc]] W (IntNew (rightT ti tl) W)) := Lib.hid fun W hW => HRT.out W ti td sp sc tl (HAY.out.trans hW) hs1 HOL.out
      have HNW : Hid (∀ W, Aft Y W → Calls Tryz.prog 25 #[.agg #[.slice (some ⟨g, o, none⟩) n1 c, .slice q n2 d], .agg #[.int .i64 ti, .bool td, .slice sp tl.length sc]] W (BoolNew (needsB h ⟨ti, td, tl⟩) W)) := Lib.hid fun W hW => HND.out W ti td sp sc tl (HAY.out.trans hW) hs1 HOL.out
      generalize needsB h ⟨ti, td, tl⟩ = b at HNW HNX HF3
      generalize rightT ti tl = y at HRW HNX HF2
      generalize tl.length = tn at c2 hY HCY HRW HNW
      have HBLW : Hid (w.heap.size < wr.heap.size) := Lib.hid (Nat.lt_of_lt_of_le HBL.out HSA.out.size)
      clear HS1 hs1 HOL
      rcases HPV.out with hkz | ⟨j, hj, hpc, hF1⟩
      · have hd1 : decide (0 < k) = false := decide_eq_false (by omega)
        have hd2 : decide ((0 : Int) < (k : Int)) = false := decide_eq_false (by omega)
        have hd3 : ¬ (0 : Int) < (k : Int) := by omega
        have hd4 : ¬ 0 < k := by omega
        have HKZ := Lib.hid hkz
        clear hkz
        have HSW : Hid (∀ W, Aft Y W → (fun Z => (Z.cell? ⟨w.heap.size, 0, none⟩ = some (.slice (some ⟨g, o, none⟩) n1 c) ∧ Z.cell? ⟨w.heap.size, 1, none⟩ = some (.slice q n2 d)) ∧ Z.cell? ⟨wr.heap.size, 0, none⟩ = some (.int .i64 ti) ∧ Z.cell? ⟨wr.heap.size, 1, none⟩ = some (.bool td) ∧ Z.cell? ⟨wr.heap.size, 2, none⟩ = some (.slice sp tn sc)) W) := HCY
        go_upto_region 6 with fail
        rw [← hY]
        clear hY
        refine wp_region_held_drew (S := fun Z => (Z.cell? ⟨w.heap.size, 0, none⟩ = some (.slice (some ⟨g, o, none⟩) n1 c) ∧ Z.cell? ⟨w.heap.size, 1, none⟩ = some (.slice q n2 d)) ∧ Z.cell? ⟨wr.heap.size, 0, none⟩ = some (.int .i64 ti) ∧ Z.cell? ⟨wr.heap.size, 1, none⟩ = some (.bool td) ∧ Z.cell? ⟨wr.heap.size, 2, none⟩ = some (.slice sp tn sc)) (by kernel_rfl) (HSW.out _ ((Aft.refl Y).drew 1)) (fun hHeld0 => ?_)
        refine wpAnyH_take (i := 0) (v := ?_) rfl (by kernel_rfl) (by kernel_rfl) (by kernel_rfl) (fun _ _ _ h => h) (Or.inl ⟨by rfl, ?yz0⟩) (by assumption) ?qz0
        case yz0 => (intro wz hSw; (try dsimp only at hSw); go_simp <;> with_reducible rfl)
        try simp only [Act.put, List.getElem_toArray, List.getElem_cons_zero, List.setIfInBounds_toArray, List.set_cons_zero, List.set_cons_succ]
        refine wpAnyH_take (i := 1) (v := ?_) rfl (by kernel_rfl) (by kernel_rfl) (by kernel_rfl) (fun _ _ _ h => h) (Or.inl ⟨by rfl, ?yz1⟩) (by assumption) ?qz1
        case yz1 => (intro wz hSw; (try dsimp only at hSw); go_simp <;> with_reducible rfl)
        try simp only [Act.put, List.getElem_toArray, List.getElem_cons_zero, List.getElem_cons_succ, List.setIfInBounds_toArray, List.set_cons_zero, List.set_cons_succ]
        refine wpAnyH_take (i := 2) (v := ?_) rfl (by kernel_rfl) (by kernel_rfl) (by kernel_rfl) (fun _ _ _ h => h) (Or.inl ⟨by rfl, ?yz2⟩) (by assumption) ?qz2
        case yz2 => (intro wz hSw; (try dsimp only at hSw); go_simp <;> with_reducible rfl)
        try simp only [Act.put, List.getElem_toArray, List.getElem_cons_zero, List.getElem_cons_succ, List.setIfInBounds_toArray, List.set_cons_zero, List.set_cons_succ]
        refine wpAnyH_take (i := 3) (v := undef) rfl (by kernel_rfl) (by kernel_rfl) (by kernel_rfl) (fun _ _ _ h => h) (Or.inr ⟨by rfl, rfl⟩) (by assumption) ?qz3
        try simp only [Act.put, List.getElem_toArray, List.getElem_cons_zero, List.getElem_cons_succ, List.setIfInBounds_toArray, List.set_cons_zero, List.set_cons_succ]
        refine wpAnyH_take (i := 4) (v := undef) rfl (by kernel_rfl) (by kernel_rfl) (by kernel_rfl) (fun _ _ _ h => h) (Or.inr ⟨by rfl, rfl⟩) (by assumption) ?qz4
        try simp only [Act.put, List.getElem_toArray, List.getElem_cons_zero, List.getElem_cons_succ, List.setIfInBounds_toArray, List.set_cons_zero, List.set_cons_succ]
        refine wpAnyH_take (i := 5) (v := undef) rfl (by kernel_rfl) (by kernel_rfl) (by kernel_rfl) (fun _ _ _ h => h) (Or.inr ⟨by rfl, rfl⟩) (by assumption) ?qz5
        try simp only [Act.put, List.getElem_toArray, List.getElem_cons_zero, List.getElem_cons_succ, List.setIfInBounds_toArray, List.set_cons_zero, List.set_cons_succ]
        refine wpAnyH_take (i := 6) (v := undef) rfl (by kernel_rfl) (by kernel_rfl) (by kernel_rfl) (fun _ _ _ h => h) (Or.inr ⟨by rfl, rfl⟩) (by assumption) ?qz6
        try simp only [Act.put, List.getElem_toArray, List.getElem_cons_zero, List.getElem_cons_succ, List.setIfInBounds_toArray, List.set_cons_zero, List.set_cons_succ]
        refine wpAnyH_take (i := 7) (v := undef) rfl (by kernel_rfl) (by kernel_rfl) (by kernel_rfl) (fun _ _ _ h => h) (Or.inr ⟨by rfl, rfl⟩) (by assumption) ?qz7
        try simp only [Act.put, List.getElem_toArray, List.getElem_cons_zero, List.getElem_cons_succ, List.setIfInBounds_toArray, List.set_cons_zero, List.set_cons_succ]
        refine wpAnyH_take (i := 8) (v := undef) rfl (by kernel_rfl) (by kernel_rfl) (by kernel_rfl) (fun _ _ _ h => h) (Or.inr ⟨by rfl, rfl⟩) (by assumption) ?qz8
        try simp only [Act.put, List.getElem_toArray, List.getElem_cons_zero, List.getElem_cons_succ, List.setIfInBounds_toArray, List.set_cons_zero, List.set_cons_succ]
        refine wpAnyH_take (i := 9) (v := undef) rfl (by kernel_rfl) (by kernel_rfl) (by kernel_rfl) (fun _ _ _ h => h) (Or.inr ⟨by rfl, rfl⟩) (by assumption) ?qz9
        try simp only [Act.put, List.getElem_toArray, List.getElem_cons_zero, List.getElem_cons_succ, List.setIfInBounds_toArray, List.set_cons_zero, List.set_cons_succ]
        refine wpAnyH_take (i := 10) (v := undef) rfl (by kernel_rfl) (by kernel_rfl) (by kernel_rfl) (fun _ _ _ h => h) (Or.inr ⟨by rfl, rfl⟩) (by assumption) ?qz10
        try simp only [Act.put, List.getElem_toArray, List.getElem_cons_zero, List.getElem_cons_succ, List.setIfInBounds_toArray, List.set_cons_zero, List.set_cons_succ]
        refine wpAnyH_take (i := 11) (v := undef) rfl (by kernel_rfl) (by kernel_rfl) (by kernel_rfl) (fun _ _ _ h => h) (Or.inr ⟨by rfl, rfl⟩) (by assumption) ?qz11
        try simp only [Act.put, List.getElem_toArray, List.getElem_cons_zero, List.getElem_cons_succ, List.setIfInBounds_toArray, List.set_cons_zero, List.set_cons_succ]
        refine wpAnyH_take (i := 12) (v := undef) rfl (by kernel_rfl) (by kernel_rfl) (by kernel_rfl) (fun _ _ _ h => h) (Or.inr ⟨by rfl, rfl⟩) (by assumption) ?qz12
        try simp only [Act.put, List.getElem_toArray, List.getElem_cons_zero, List.getElem_cons_succ, List.setIfInBounds_toArray, List.set_cons_zero, List.set_cons_succ]
        refine wpAnyH_take (i := 13) (v := ?_) rfl (by kernel_rfl) (by kernel_rfl) (by kernel_rfl) (fun _ _ _ h => h) (Or.inl ⟨by rfl, ?yz13⟩) (by assumption) ?qz13
        case yz13 => (intro wz hSw; (try dsimp only at hSw); go_simp <;> with_reducible rfl)
        try simp only [Act.put, List.getElem_toArray, List.getElem_cons_zero, List.getElem_cons_succ, List.setIfInBounds_toArray, List.set_cons_zero, List.set_cons_succ]
        refine wpAnyH_take (i := 14) (v := ?_) rfl (by kernel_rfl) (by kernel_rfl) (by kernel_rfl) (fun _ _ _ h => h) (Or.inl ⟨by rfl, ?yz14⟩) (by assumption) ?qz14
        case yz14 => (intro wz hSw; (try dsimp only at hSw); go_simp <;> with_reducible rfl)
        try simp only [Act.put, List.getElem_toArray, List.getElem_cons_zero, List.getElem_cons_succ, List.setIfInBounds_toArray, List.set_cons_zero, List.set_cons_succ]
        refine wpAnyH_take (i := 15) (v := ?_) rfl (by kernel_rfl) (by kernel_rfl) (by kernel_rfl) (fun _ _ _ h => h) (Or.inl ⟨by rfl, ?yzc15⟩) (by assumption) ?qzc15
        case yzc15 => (intro wz hSw; (try dsimp only at hSw); go_simp <;> with_reducible rfl)
        try simp only [Act.put, List.getElem_toArray, List.getElem_cons_zero, List.getElem_cons_succ, List.setIfInBounds_toArray, List.set_cons_zero, List.set_cons_succ]
        refine wpAnyH_ready (rs := [16]) (by kernel_rfl) (by simp) ?_
        refine AllReadyH.cons rfl (fun K hK => ?_) AllReadyH.nil
        go_simp
        refine (HRW.out Y.drew ((Aft.refl Y).drew 1)).mono ?_
        rintro e w4 ⟨rfl, ha⟩
        have HA4 := Lib.hid (((Aft.refl Y).drew 1).trans ha)
        clear ha
        try go_wp2_with fail
        refine hK.out _ _ (HSW.out _ HA4.out) (fun hHeld1 => ?_)
        clear hK K
        try simp only [Act.put, List.getElem_toArray, List.getElem_cons_zero, List.getElem_cons_succ, List.setIfInBounds_toArray, List.set_cons_zero, List.set_cons_succ]
        by_cases hy : y = 0
        · subst hy
          refine wpAnyH_take (i := 17) (v := ?_) rfl (by kernel_rfl) (by kernel_rfl) (by kernel_rfl) (fun _ _ _ h => h) (Or.inl ⟨by rfl, ?yzd17⟩) (by assumption) ?qzd17
          case yzd17 => (intro wz hSw; (try dsimp only at hSw); go_simp <;> with_reducible rfl)
          try simp only [Act.put, List.getElem_toArray, List.getElem_cons_zero, List.getElem_cons_succ, List.setIfInBounds_toArray, List.set_cons_zero, List.set_cons_succ]
          refine wpAnyH_take (i := 18) (v := ?_) rfl (by kernel_rfl) (by kernel_rfl) (by kernel_rfl) (fun _ _ _ h => h) (Or.inl ⟨by rfl, ?yzd18⟩) (by assumption) ?qzd18
          case yzd18 => (intro wz hSw; (try dsimp only at hSw); go_simp <;> with_reducible rfl)
          try simp only [Act.put, List.getElem_toArray, List.getElem_cons_zero, List.getElem_cons_succ, List.setIfInBounds_toArray, List.set_cons_zero, List.set_cons_succ]
          refine wpAnyH_take (i := 19) (v := ?_) rfl (by kernel_rfl) (by kernel_rfl) (by kernel_rfl) (fun _ _ _ h => h) (Or.inl ⟨by rfl, ?yzd19⟩) (by assumption) ?qzd19
          case yzd19 => (intro wz hSw; (try dsimp only at hSw); go_simp <;> with_reducible rfl)
          try simp only [Act.put, List.getElem_toArray, List.getElem_cons_zero, List.getElem_cons_succ, List.setIfInBounds_toArray, List.set_cons_zero, List.set_cons_succ]
          refine wpAnyH_take (i := 20) (v := ?_) rfl (by kernel_rfl) (by kernel_rfl) (by kernel_rfl) (fun _ _ _ h => h) (Or.inl ⟨by rfl, ?yzd20⟩) (by assumption) ?qzd20
          case yzd20 => (intro wz hSw; (try dsimp only at hSw); go_simp <;> with_reducible rfl)
          try simp only [Act.put, List.getElem_toArray, List.getElem_cons_zero, List.getElem_cons_succ, List.setIfInBounds_toArray, List.set_cons_zero, List.set_cons_succ]
          refine wpAnyH_take (i := 21) (v := ?_) rfl (by kernel_rfl) (by kernel_rfl) (by kernel_rfl) (fun _ _ _ h => h) (Or.inl ⟨by rfl, ?yzd21⟩) (by assumption) ?qzd21
          case yzd21 => (intro wz hSw; (try dsimp only at hSw); go_simp <;> with_reducible rfl)
          try simp only [Act.put, List.getElem_toArray, List.getElem_cons_zero, List.getElem_cons_succ, List.setIfInBounds_toArray, List.set_cons_zero, List.set_cons_succ]
          refine wpAnyH_ready (rs := [22]) (by kernel_rfl) (by simp) ?_
          refine AllReadyH.cons rfl (fun K hK => ?_) AllReadyH.nil
          go_simp
          refine (HNW.out _ HA4.out).mono ?_
          rintro e w5 ⟨rfl, ha⟩
          have HA5 := Lib.hid (HA4.out.trans ha)
          clear ha
          try go_wp2_with fail
          refine hK.out _ _ (HSW.out _ HA5.out) (fun hHeld2 => ?_)
          clear hK K
          try simp only [Act.put, List.getElem_toArray, List.getElem_cons_zero, List.getElem_cons_succ, List.setIfInBounds_toArray, List.set_cons_zero, List.set_cons_succ]
          refine wpAnyH_take (i := 23) (v := ?_) rfl (by kernel_rfl) (by kernel_rfl) (by kernel_rfl) (fun _ _ _ h => h) (Or.inl ⟨by rfl, ?yzd23⟩) (by assumption) ?qzd23
          case yzd23 => (intro wz hSw; (try dsimp only at hSw); go_simp <;> with_reducible rfl)
          try simp only [Act.put, List.getElem_toArray, List.getElem_cons_zero, List.getElem_cons_succ, List.setIfInBounds_toArray, List.set_cons_zero, List.set_cons_succ]
          refine wpAnyH_take (i := 24) (v := ?_) rfl (by kernel_rfl) (by kernel_rfl) (by kernel_rfl) (fun _ _ _ h => h) (Or.inl ⟨by rfl, ?yzd24⟩) (by assumption) ?qzd24
          case yzd24 => (intro wz hSw; (try dsimp only at hSw); go_simp <;> with_reducible rfl)
          try simp only [Act.put, List.getElem_toArray, List.getElem_cons_zero, List.getElem_cons_succ, List.setIfInBounds_toArray, List.set_cons_zero, List.set_cons_succ]
          cases b with
          | false =>
            refine wpAnyH_done (by kernel_rfl) ?_ _
            have HRF : Hid (r = false) := Lib.hid (HF3.out rfl)
            have HAE : Hid (Aft w w5) := Lib.hid ((HA.out.trans HAY.out).trans HA5.out)
            clear HCY HPC HRW HNW HNX HF2 HF3 HPV HT HO HOPS HOK2 HN1 HN2 HN3 HN4 HN5 HN6 HY HKE HND HRT HWS HB
            go_wp2_with fail
            go_ret
            exact ⟨ret_bool HRF.out.symm, HAE.out⟩
          | true =>
            refine wpAnyH_done (by kernel_rfl) ?_ _
            have HAE : Hid (Aft X w5 ∧ P1 h (k + 1)) := Lib.hid ⟨HAY.out.trans HA5.out, HNX.out (by trivial) (by trivial) (fun j hj => by have := HKZ.out; omega)⟩
            clear HCY HPC HRW HNW HNX HF2 HF3 HPV
            clear hHeld0 hHeld1 hHeld2 HSW
            go_wp2_with fail
            go_roundw
            case rel => exact ⟨k + 1, by go_num, by omega, HAE⟩
            case measure => simp [intOf]; omega
        · have hy2 : (y != 0) = true := by rw [bne_iff_ne]; exact hy
          refine wpAnyH_take (i := 17) (v := ?_) rfl (by kernel_rfl) (by kernel_rfl) (by kernel_rfl) (fun _ _ _ h => h) (Or.inl ⟨by rfl, ?yze17⟩) (by assumption) ?qze17
          case yze17 => (intro wz hSw; (try dsimp only at hSw); go_simp <;> with_reducible rfl)
          try simp only [Act.put, List.getElem_toArray, List.getElem_cons_zero, List.getElem_cons_succ, List.setIfInBounds_toArray, List.set_cons_zero, List.set_cons_succ]
          refine wpAnyH_take (i := 18) (v := ?_) rfl (by kernel_rfl) (by kernel_rfl) (by kernel_rfl) (fun _ _ _ h => h) (Or.inl ⟨by rfl, ?yze18⟩) (by assumption) ?qze18
          case yze18 => (intro wz hSw; (try dsimp only at hSw); go_simp <;> with_reducible rfl)
          try simp only [Act.put, List.getElem_toArray, List.getElem_cons_zero, List.getElem_cons_succ, List.setIfInBounds_toArray, List.set_cons_zero, List.set_cons_succ]
          refine wpAnyH_take (i := 19) (v := ?_) rfl (by kernel_rfl) (by kernel_rfl) (by kernel_rfl) (fun _ _ _ h => h) (Or.inl ⟨by rfl, ?yze19⟩) (by assumption) ?qze19
          case yze19 => (intro wz hSw; (try dsimp only at hSw); go_simp <;> with_reducible rfl)
          try simp only [Act.put, List.getElem_toArray, List.getElem_cons_zero, List.getElem_cons_succ, List.setIfInBounds_toArray, List.set_cons_zero, List.set_cons_succ]
          refine wpAnyH_take (i := 20) (v := undef) rfl (by kernel_rfl) (by kernel_rfl) (by kernel_rfl) (fun _ _ _ h => h) (Or.inr ⟨by rfl, rfl⟩) (by assumption) ?qze20
          try simp only [Act.put, List.getElem_toArray, List.getElem_cons_zero, List.getElem_cons_succ, List.setIfInBounds_toArray, List.set_cons_zero, List.set_cons_succ]
          refine wpAnyH_take (i := 21) (v := undef) rfl (by kernel_rfl) (by kernel_rfl) (by kernel_rfl) (fun _ _ _ h => h) (Or.inr ⟨by rfl, rfl⟩) (by assumption) ?qze21
          try simp only [Act.put, List.getElem_toArray, List.getElem_cons_zero, List.getElem_cons_succ, List.setIfInBounds_toArray, List.set_cons_zero, List.set_cons_succ]
          refine wpAnyH_take (i := 22) (v := undef) rfl (by kernel_rfl) (by kernel_rfl) (by kernel_rfl) (fun _ _ _ h => h) (Or.inr ⟨by rfl, rfl⟩) (by assumption) ?qze22
          try simp only [Act.put, List.getElem_toArray, List.getElem_cons_zero, List.getElem_cons_succ, List.setIfInBounds_toArray, List.set_cons_zero, List.set_cons_succ]
          refine wpAnyH_take (i := 23) (v := undef) rfl (by kernel_rfl) (by kernel_rfl) (by kernel_rfl) (fun _ _ _ h => h) (Or.inr ⟨by rfl, rfl⟩) (by assumption) ?qze23
          try simp only [Act.put, List.getElem_toArray, List.getElem_cons_zero, List.getElem_cons_succ, List.setIfInBounds_toArray, List.set_cons_zero, List.set_cons_succ]
          refine wpAnyH_take (i := 24) (v := ?_) rfl (by kernel_rfl) (by kernel_rfl) (by kernel_rfl) (fun _ _ _ h => h) (Or.inl ⟨by rfl, ?yze24⟩) (by assumption) ?qze24
          case yze24 => (intro wz hSw; (try dsimp only at hSw); go_simp <;> with_reducible rfl)
          try simp only [Act.put, List.getElem_toArray, List.getElem_cons_zero, List.getElem_cons_succ, List.setIfInBounds_toArray, List.set_cons_zero, List.set_cons_succ]
          refine wpAnyH_done (by kernel_rfl) ?_ _
          have HRF : Hid (r = false) := Lib.hid (HF2.out hy)
          have HAE : Hid (Aft w w4) := Lib.hid ((HA.out.trans HAY.out).trans HA4.out)
          clear HCY HPC HRW HNW HNX HF2 HF3 HPV HT HO HOPS HOK2 HN1 HN2 HN3 HN4 HN5 HN6 HY HKE HND HRT HWS HB
          go_wp2_with fail
          go_ret
          exact ⟨ret_bool HRF.out.symm, HAE.out⟩
      · obtain ⟨pid, hpid⟩ : ∃ z, z = (h.txs.getD j Txn.zero).id := ⟨_, rfl⟩
        rw [← hpid] at hpc hF1
        have HF1 := Lib.hid hF1
        clear hF1
        have HPI := Lib.hid hpid
        clear hpid
        have hk0 : (0 : Int) < (k : Int) := by omega
        have hk1 : 0 < k := by omega
        have hd1 : decide (0 < k) = true := decide_eq_true hk1
        have hd2 : decide ((0 : Int) < (k : Int)) = true := decide_eq_true hk0
        have hw : IntKind.i64.wrap ((k : Int) - 1) = (j : Int) := by rw [IntKind.wrap_i64] <;> omega
        have hjI : (j : Int) < (n1 : Int) := by omega
        have hj0 : ¬ (j : Int) < 0 := by omega
        have HSW : Hid (∀ W, Aft Y W → (fun Z => (Z.cell? ⟨w.heap.size, 0, none⟩ = some (.slice (some ⟨g, o, none⟩) n1 c) ∧ Z.cell? ⟨w.heap.size, 1, none⟩ = some (.slice q n2 d)) ∧ Z.cell? ⟨wr.heap.size, 0, none⟩ = some (.int .i64 ti) ∧ Z.cell? ⟨wr.heap.size, 1, none⟩ = some (.bool td) ∧ Z.cell? ⟨wr.heap.size, 2, none⟩ = some (.slice sp tn sc) ∧ Z.cell? ⟨g, o + j * 3, none⟩ = some (.int .i64 pid)) W) := Lib.hid fun W hW => by obtain ⟨q1, q2, q3, q4⟩ := HCY.out W hW; exact ⟨q1, q2, q3, q4, HPC.out _ _ _ hpc hg W hW⟩
        have hgW : Hid (∀ W, Aft Y W → g < W.heap.size) := Lib.hid fun W hW => Nat.lt_of_lt_of_le hg (Nat.le_trans (by rw [hY]; simp) hW.size)
        have HJ := Lib.hid hj
        clear hj
        go_upto_region 6 with fail
        rw [← hY]
        clear hY
        refine wp_region_held_drew (S := fun Z => (Z.cell? ⟨w.heap.size, 0, none⟩ = some (.slice (some ⟨g, o, none⟩) n1 c) ∧ Z.cell? ⟨w.heap.size, 1, none⟩ = some (.slice q n2 d)) ∧ Z.cell? ⟨wr.heap.size, 0, none⟩ = some (.int .i64 ti) ∧ Z.cell? ⟨wr.heap.size, 1, none⟩ = some (.bool td) ∧ Z.cell? ⟨wr.heap.size, 2, none⟩ = some (.slice sp tn sc) ∧ Z.cell? ⟨g, o + j * 3, none⟩ = some (.int .i64 pid)) (by kernel_rfl) (HSW.out _ ((Aft.refl Y).drew 1)) (fun hHeld0 => ?_)
        refine wpAnyH_take (i := 0) (v := ?_) rfl (by kernel_rfl) (by kernel_rfl) (by kernel_rfl) (fun _ _ _ h => h) (Or.inl ⟨by rfl, ?yv0⟩) (by assumption) ?qv0
        case yv0 => (intro wz hSw; (try dsimp only at hSw); go_simp <;> with_reducible rfl)
        try simp only [Act.put, List.getElem_toArray, List.getElem_cons_zero, List.setIfInBounds_toArray, List.set_cons_zero, List.set_cons_succ]
        refine wpAnyH_take (i := 1) (v := ?_) rfl (by kernel_rfl) (by kernel_rfl) (by kernel_rfl) (fun _ _ _ h => h) (Or.inl ⟨by rfl, ?yv1⟩) (by assumption) ?qv1
        case yv1 => (intro wz hSw; (try dsimp only at hSw); go_simp <;> with_reducible rfl)
        try simp only [Act.put, List.getElem_toArray, List.getElem_cons_zero, List.getElem_cons_succ, List.setIfInBounds_toArray, List.set_cons_zero, List.set_cons_succ]
        refine wpAnyH_take (i := 2) (v := ?_) rfl (by kernel_rfl) (by kernel_rfl) (by kernel_rfl) (fun _ _ _ h => h) (Or.inl ⟨by rfl, ?yv2⟩) (by assumption) ?qv2
        case yv2 => (intro wz hSw; (try dsimp only at hSw); go_simp <;> with_reducible rfl)
        try simp only [Act.put, List.getElem_toArray, List.getElem_cons_zero, List.getElem_cons_succ, List.setIfInBounds_toArray, List.set_cons_zero, List.set_cons_succ]
        refine wpAnyH_take (i := 3) (v := ?_) rfl (by kernel_rfl) (by kernel_rfl) (by kernel_rfl) (fun _ _ _ h => h) (Or.inl ⟨by rfl, ?yv3⟩) (by assumption) ?qv3
        case yv3 => (intro wz hSw; (try dsimp only at hSw); go_simp <;> with_reducible rfl)
        try simp only [Act.put, List.getElem_toArray, List.getElem_cons_zero, List.getElem_cons_succ, List.setIfInBounds_toArray, List.set_cons_zero, List.set_cons_succ]
        refine wpAnyH_take (i := 4) (v := ?_) rfl (by kernel_rfl) (by kernel_rfl) (by kernel_rfl) (fun _ _ _ h => h) (Or.inl ⟨by rfl, ?yv4⟩) (by assumption) ?qv4
        case yv4 => (intro wz hSw; (try dsimp only at hSw); go_simp <;> with_reducible rfl)
        try simp only [Act.put, List.getElem_toArray, List.getElem_cons_zero, List.getElem_cons_succ, List.setIfInBounds_toArray, List.set_cons_zero, List.set_cons_succ]
        refine wpAnyH_take (i := 5) (v := ?_) rfl (by kernel_rfl) (by kernel_rfl) (by kernel_rfl) (fun _ _ _ h => h) (Or.inl ⟨by rfl, ?yv5⟩) (by assumption) ?qv5
        case yv5 => (intro wz hSw; (try dsimp only at hSw); go_simp <;> with_reducible rfl)
        try simp only [Act.put, List.getElem_toArray, List.getElem_cons_zero, List.getElem_cons_succ, List.setIfInBounds_toArray, List.set_cons_zero, List.set_cons_succ]
        refine wpAnyH_take (i := 6) (v := ?_) rfl (by kernel_rfl) (by kernel_rfl) (by kernel_rfl) (fun _ _ _ h => h) (Or.inl ⟨by rfl, ?yv6⟩) (by assumption) ?qv6
        case yv6 => (intro wz hSw; (try dsimp only at hSw); go_simp <;> with_reducible rfl)
        try simp only [Act.put, List.getElem_toArray, List.getElem_cons_zero, List.getElem_cons_succ, List.setIfInBounds_toArray, List.set_cons_zero, List.set_cons_succ]
        refine wpAnyH_take (i := 7) (v := ?_) rfl (by kernel_rfl) (by kernel_rfl) (by kernel_rfl) (fun _ _ _ h => h) (Or.inl ⟨by rfl, ?yv7⟩) (by assumption) ?qv7
        case yv7 => (intro wz hSw; (try dsimp only at hSw); go_simp <;> with_reducible rfl)
        try simp only [Act.put, List.getElem_toArray, List.getElem_cons_zero, List.getElem_cons_succ, List.setIfInBounds_toArray, List.set_cons_zero, List.set_cons_succ]
        refine wpAnyH_take (i := 8) (v := ?_) rfl (by kernel_rfl) (by kernel_rfl) (by kernel_rfl) (fun _ _ _ h => h) (Or.inl ⟨by rfl, ?yv8⟩) (by assumption) ?qv8
        case yv8 => (intro wz hSw; (try dsimp only at hSw); go_simp <;> with_reducible rfl)
        try simp only [Act.put, List.getElem_toArray, List.getElem_cons_zero, List.getElem_cons_succ, List.setIfInBounds_toArray, List.set_cons_zero, List.set_cons_succ]
        refine wpAnyH_take (i := 9) (v := ?_) rfl (by kernel_rfl) (by kernel_rfl) (by kernel_rfl) (fun _ _ _ h => h) (Or.inl ⟨by rfl, ?yv9⟩) (by assumption) ?qv9
        case yv9 => (intro wz hSw; (try dsimp only at hSw); go_simp <;> with_reducible rfl)
        try simp only [Act.put, List.getElem_toArray, List.getElem_cons_zero, List.getElem_cons_succ, List.setIfInBounds_toArray, List.set_cons_zero, List.set_cons_succ]
        refine wpAnyH_take (i := 10) (v := ?_) rfl (by kernel_rfl) (by kernel_rfl) (by kernel_rfl) (fun _ _ _ h => h) (Or.inl ⟨by rfl, ?yv10⟩) (by assumption) ?qv10
        case yv10 => (intro wz hSw; (try dsimp only at hSw); go_simp <;> with_reducible rfl)
        try simp only [Act.put, List.getElem_toArray, List.getElem_cons_zero, List.getElem_cons_succ, List.setIfInBounds_toArray, List.set_cons_zero, List.set_cons_succ]
        refine wpAnyH_take (i := 11) (v := ?_) rfl (by kernel_rfl) (by kernel_rfl) (by kernel_rfl) (fun _ _ _ h => h) (Or.inl ⟨by rfl, ?yv11⟩) (by assumption) ?qv11
        case yv11 => (intro wz hSw; (try dsimp only at hSw); go_simp <;> with_reducible rfl)
        try simp only [Act.put, List.getElem_toArray, List.getElem_cons_zero, List.getElem_cons_succ, List.setIfInBounds_toArray, List.set_cons_zero, List.set_cons_succ]
        by_cases hge : ti ≤ pid
        · have hge2 : ti ≤ pid := hge
          refine wpAnyH_take (i := 12) (v := ?_) rfl (by kernel_rfl) (by kernel_rfl) (by kernel_rfl) (fun _ _ _ h => h) (Or.inl ⟨by rfl, ?yva12⟩) (by assumption) ?qva12
          case yva12 => (intro wz hSw; (try dsimp only at hSw); go_simp <;> with_reducible rfl)
          try simp only [Act.put, List.getElem_toArray, List.getElem_cons_zero, List.getElem_cons_succ, List.setIfInBounds_toArray, List.set_cons_zero, List.set_cons_succ]
          refine wpAnyH_take (i := 13) (v := ?_) rfl (by kernel_rfl) (by kernel_rfl) (by kernel_rfl) (fun _ _ _ h => h) (Or.inl ⟨by rfl, ?yva13⟩) (by assumption) ?qva13
          case yva13 => (intro wz hSw; (try dsimp only at hSw); go_simp <;> with_reducible rfl)
          try simp only [Act.put, List.getElem_toArray, List.getElem_cons_zero, List.getElem_cons_succ, List.setIfInBounds_toArray, List.set_cons_zero, List.set_cons_succ]
          refine wpAnyH_take (i := 14) (v := ?_) rfl (by kernel_rfl) (by kernel_rfl) (by kernel_rfl) (fun _ _ _ h => h) (Or.inl ⟨by rfl, ?yva14⟩) (by assumption) ?qva14
          case yva14 => (intro wz hSw; (try dsimp only at hSw); go_simp <;> with_reducible rfl)
          try simp only [Act.put, List.getElem_toArray, List.getElem_cons_zero, List.getElem_cons_succ, List.setIfInBounds_toArray, List.set_cons_zero, List.set_cons_succ]
          refine wpAnyH_take (i := 15) (v := undef) rfl (by kernel_rfl) (by kernel_rfl) (by kernel_rfl) (fun _ _ _ h => h) (Or.inr ⟨by rfl, rfl⟩) (by assumption) ?qva15
          try simp only [Act.put, List.getElem_toArray, List.getElem_cons_zero, List.getElem_cons_succ, List.setIfInBounds_toArray, List.set_cons_zero, List.set_cons_succ]
          refine wpAnyH_take (i := 16) (v := undef) rfl (by kernel_rfl) (by kernel_rfl) (by kernel_rfl) (fun _ _ _ h => h) (Or.inr ⟨by rfl, rfl⟩) (by assumption) ?qva16
          try simp only [Act.put, List.getElem_toArray, List.getElem_cons_zero, List.getElem_cons_succ, List.setIfInBounds_toArray, List.set_cons_zero, List.set_cons_succ]
          refine wpAnyH_take (i := 17) (v := undef) rfl (by kernel_rfl) (by kernel_rfl) (by kernel_rfl) (fun _ _ _ h => h) (Or.inr ⟨by rfl, rfl⟩) (by assumption) ?qva17
          try simp only [Act.put, List.getElem_toArray, List.getElem_cons_zero, List.getElem_cons_succ, List.setIfInBounds_toArray, List.set_cons_zero, List.set_cons_succ]
          refine wpAnyH_take (i := 18) (v := ?_) rfl (by kernel_rfl) (by kernel_rfl) (by kernel_rfl) (fun _ _ _ h => h) (Or.inl ⟨by rfl, ?yva18⟩) (by assumption) ?qva18
          case yva18 => (intro wz hSw; (try dsimp only at hSw); go_simp <;> with_reducible rfl)
          try simp only [Act.put, List.getElem_toArray, List.getElem_cons_zero, List.getElem_cons_succ, List.setIfInBounds_toArray, List.set_cons_zero, List.set_cons_succ]
          refine wpAnyH_take (i := 19) (v := ?_) rfl (by kernel_rfl) (by kernel_rfl) (by kernel_rfl) (fun _ _ _ h => h) (Or.inl ⟨by rfl, ?yva19⟩) (by assumption) ?qva19
          case yva19 => (intro wz hSw; (try dsimp only at hSw); go_simp <;> with_reducible rfl)
          try simp only [Act.put, List.getElem_toArray, List.getElem_cons_zero, List.getElem_cons_succ, List.setIfInBounds_toArray, List.set_cons_zero, List.set_cons_succ]
          refine wpAnyH_take (i := 20) (v := undef) rfl (by kernel_rfl) (by kernel_rfl) (by kernel_rfl) (fun _ _ _ h => h) (Or.inr ⟨by rfl, rfl⟩) (by assumption) ?qva20
          try simp only [Act.put, List.getElem_toArray, List.getElem_cons_zero, List.getElem_cons_succ, List.setIfInBounds_toArray, List.set_cons_zero, List.set_cons_succ]
          refine wpAnyH_take (i := 21) (v := undef) rfl (by kernel_rfl) (by kernel_rfl) (by kernel_rfl) (fun _ _ _ h => h) (Or.inr ⟨by rfl, rfl⟩) (by assumption) ?qva21
          try simp only [Act.put, List.getElem_toArray, List.getElem_cons_zero, List.getElem_cons_succ, List.setIfInBounds_toArray, List.set_cons_zero, List.set_cons_succ]
          refine wpAnyH_take (i := 22) (v := undef) rfl (by kernel_rfl) (by kernel_rfl) (by kernel_rfl) (fun _ _ _ h => h) (Or.inr ⟨by rfl, rfl⟩) (by assumption) ?qva22
          try simp only [Act.put, List.getElem_toArray, List.getElem_cons_zero, List.getElem_cons_succ, List.setIfInBounds_toArray, List.set_cons_zero, List.set_cons_succ]
          refine wpAnyH_take (i := 23) (v := undef) rfl (by kernel_rfl) (by kernel_rfl) (by kernel_rfl) (fun _ _ _ h => h) (Or.inr ⟨by rfl, rfl⟩) (by assumption) ?qva23
          try simp only [Act.put, List.getElem_toArray, List.getElem_cons_zero, List.getElem_cons_succ, List.setIfInBounds_toArray, List.set_cons_zero, List.set_cons_succ]
          refine wpAnyH_take (i := 24) (v := ?_) rfl (by kernel_rfl) (by kernel_rfl) (by kernel_rfl) (fun _ _ _ h => h) (Or.inl ⟨by rfl, ?yva24⟩) (by assumption) ?qva24
          case yva24 => (intro wz hSw; (try dsimp only at hSw); go_simp <;> with_reducible rfl)
          try simp only [Act.put, List.getElem_toArray, List.getElem_cons_zero, List.getElem_cons_succ, List.setIfInBounds_toArray, List.set_cons_zero, List.set_cons_succ]
          have HAD : Hid (Aft Y Y.drew) := Lib.hid ((Aft.refl Y).drew 1)
          refine wpAnyH_done (by kernel_rfl) ?_ _
          have HRF : Hid (r = false) := Lib.hid (HF1.out hge)
          have HAE : Hid (Aft w Y.drew) := Lib.hid ((HA.out.trans HAY.out).trans HAD.out)
          clear HCY HPC HRW HNW HNX HF2 HF3 HPV HT HO HOPS HOK2 HN1 HN2 HN3 HN4 HN5 HN6 HY HKE HND HRT HWS HB
          go_wp2_with fail
          go_ret
          exact ⟨ret_bool HRF.out.symm, HAE.out⟩
        · have hge2 : ¬ ti ≤ pid := hge
          have HORD : Hid (∀ j2, k = j2 + 1 → (h.txs.getD j2 Txn.zero).id < ti) := Lib.hid fun j2 hj2 => by
            have e : j2 = j := by have := HJ.out; omega
            rw [e, ← HPI.out]
            omega
          refine wpAnyH_take (i := 12) (v := ?_) rfl (by kernel_rfl) (by kernel_rfl) (by kernel_rfl) (fun _ _ _ h => h) (Or.inl ⟨by rfl, ?yvb12⟩) (by assumption) ?qvb12
          case yvb12 => (intro wz hSw; (try dsimp only at hSw); go_simp <;> with_reducible rfl)
          try simp only [Act.put, List.getElem_toArray, List.getElem_cons_zero, List.getElem_cons_succ, List.setIfInBounds_toArray, List.set_cons_zero, List.set_cons_succ]
          refine wpAnyH_take (i := 13) (v := ?_) rfl (by kernel_rfl) (by kernel_rfl) (by kernel_rfl) (fun _ _ _ h => h) (Or.inl ⟨by rfl, ?yvb13⟩) (by assumption) ?qvb13
          case yvb13 => (intro wz hSw; (try dsimp only at hSw); go_simp <;> with_reducible rfl)
          try simp only [Act.put, List.getElem_toArray, List.getElem_cons_zero, List.getElem_cons_succ, List.setIfInBounds_toArray, List.set_cons_zero, List.set_cons_succ]
          refine wpAnyH_take (i := 14) (v := ?_) rfl (by kernel_rfl) (by kernel_rfl) (by kernel_rfl) (fun _ _ _ h => h) (Or.inl ⟨by rfl, ?yvb14⟩) (by assumption) ?qvb14
          case yvb14 => (intro wz hSw; (try dsimp only at hSw); go_simp <;> with_reducible rfl)
          try simp only [Act.put, List.getElem_toArray, List.getElem_cons_zero, List.getElem_cons_succ, List.setIfInBounds_toArray, List.set_cons_zero, List.set_cons_succ]
          refine wpAnyH_take (i := 15) (v := ?_) rfl (by kernel_rfl) (by kernel_rfl) (by kernel_rfl) (fun _ _ _ h => h) (Or.inl ⟨by rfl, ?yvbc15⟩) (by assumption) ?qvbc15
          case yvbc15 => (intro wz hSw; (try dsimp only at hSw); go_simp <;> with_reducible rfl)
          try simp only [Act.put, List.getElem_toArray, List.getElem_cons_zero, List.getElem_cons_succ, List.setIfInBounds_toArray, List.set_cons_zero, List.set_cons_succ]
          refine wpAnyH_ready (rs := [16]) (by kernel_rfl) (by simp) ?_
          refine AllReadyH.cons rfl (fun K hK => ?_) AllReadyH.nil
          go_simp
          refine (HRW.out Y.drew ((Aft.refl Y).drew 1)).mono ?_
          rintro e w4 ⟨rfl, ha⟩
          have HA4 := Lib.hid (((Aft.refl Y).drew 1).trans ha)
          clear ha
          try go_wp2_with fail
          refine hK.out _ _ (HSW.out _ HA4.out) (fun hHeld1 => ?_)
          clear hK K
          try simp only [Act.put, List.getElem_toArray, List.getElem_cons_zero, List.getElem_cons_succ, List.setIfInBounds_toArray, List.set_cons_zero, List.set_cons_succ]
          by_cases hy : y = 0
          · subst hy
            refine wpAnyH_take (i := 17) (v := ?_) rfl (by kernel_rfl) (by kernel_rfl) (by kernel_rfl) (fun _ _ _ h => h) (Or.inl ⟨by rfl, ?yvbd17⟩) (by assumption) ?qvbd17
            case yvbd17 => (intro wz hSw; (try dsimp only at hSw); go_simp <;> with_reducible rfl)
            try simp only [Act.put, List.getElem_toArray, List.getElem_cons_zero, List.getElem_cons_succ, List.setIfInBounds_toArray, List.set_cons_zero, List.set_cons_succ]
            refine wpAnyH_take (i := 18) (v := ?_) rfl (by kernel_rfl) (by kernel_rfl) (by kernel_rfl) (fun _ _ _ h => h) (Or.inl ⟨by rfl, ?yvbd18⟩) (by assumption) ?qvbd18
            case yvbd18 => (intro wz hSw; (try dsimp only at hSw); go_simp <;> with_reducible rfl)
            try simp only [Act.put, List.getElem_toArray, List.getElem_cons_zero, List.getElem_cons_succ, List.setIfInBounds_toArray, List.set_cons_zero, List.set_cons_succ]
            refine wpAnyH_take (i := 19) (v := ?_) rfl (by kernel_rfl) (by kernel_rfl) (by kernel_rfl) (fun _ _ _ h => h) (Or.inl ⟨by rfl, ?yvbd19⟩) (by assumption) ?qvbd19
            case yvbd19 => (intro wz hSw; (try dsimp only at hSw); go_simp <;> with_reducible rfl)
            try simp only [Act.put, List.getElem_toArray, List.getElem_cons_zero, List.getElem_cons_succ, List.setIfInBounds_toArray, List.set_cons_zero, List.set_cons_succ]
            refine wpAnyH_take (i := 20) (v := ?_) rfl (by kernel_rfl) (by kernel_rfl) (by kernel_rfl) (fun _ _ _ h => h) (Or.inl ⟨by rfl, ?yvbd20⟩) (by assumption) ?qvbd20
            case yvbd20 => (intro wz hSw; (try dsimp only at hSw); go_simp <;> with_reducible rfl)
            try simp only [Act.put, List.getElem_toArray, List.getElem_cons_zero, List.getElem_cons_succ, List.setIfInBounds_toArray, List.set_cons_zero, List.set_cons_succ]
            refine wpAnyH_take (i := 21) (v := ?_) rfl (by kernel_rfl) (by kernel_rfl) (by kernel_rfl) (fun _ _ _ h => h) (Or.inl ⟨by rfl, ?yvbd21⟩) (by assumption) ?qvbd21
            case yvbd21 => (intro wz hSw; (try dsimp only at hSw); go_simp <;> with_reducible rfl)
            try simp only [Act.put, List.getElem_toArray, List.getElem_cons_zero, List.getElem_cons_succ, List.setIfInBounds_toArray, List.set_cons_zero, List.set_cons_succ]
            refine wpAnyH_ready (rs := [22]) (by kernel_rfl) (by simp) ?_
            refine AllReadyH.cons rfl (fun K hK => ?_) AllReadyH.nil
            go_simp
            refine (HNW.out _ HA4.out).mono ?_
            rintro e w5 ⟨rfl, ha⟩
            have HA5 := Lib.hid (HA4.out.trans ha)
            clear ha
            try go_wp2_with fail
            refine hK.out _ _ (HSW.out _ HA5.out) (fun hHeld2 => ?_)
            clear hK K
            try simp only [Act.put, List.getElem_toArray, List.getElem_cons_zero, List.getElem_cons_succ, List.setIfInBounds_toArray, List.set_cons_zero, List.set_cons_succ]
            refine wpAnyH_take (i := 23) (v := ?_) rfl (by kernel_rfl) (by kernel_rfl) (by kernel_rfl) (fun _ _ _ h => h) (Or.inl ⟨by rfl, ?yvbd23⟩) (by assumption) ?qvbd23
            case yvbd23 => (intro wz hSw; (try dsimp only at hSw); go_simp <;> with_reducible rfl)
            try simp only [Act.put, List.getElem_toArray, List.getElem_cons_zero, List.getElem_cons_succ, List.setIfInBounds_toArray, List.set_cons_zero, List.set_cons_succ]
            refine wpAnyH_take (i := 24) (v := ?_) rfl (by kernel_rfl) (by kernel_rfl) (by kernel_rfl) (fun _ _ _ h => h) (Or.inl ⟨by rfl, ?yvbd24⟩) (by assumption) ?qvbd24
            case yvbd24 => (intro wz hSw; (try dsimp only at hSw); go_simp <;> with_reducible rfl)
            try simp only [Act.put, List.getElem_toArray, List.getElem_cons_zero, List.getElem_cons_succ, List.setIfInBounds_toArray, List.set_cons_zero, List.set_cons_succ]
            cases b with
            | false =>
              refine wpAnyH_done (by kernel_rfl) ?_ _
              have HRF : Hid (r = false) := Lib.hid (HF3.out rfl)
              have HAE : Hid (Aft w w5) := Lib.hid ((HA.out.trans HAY.out).trans HA5.out)
              clear HCY HPC HRW HNW HNX HF2 HF3 HPV HT HO HOPS HOK2 HN1 HN2 HN3 HN4 HN5 HN6 HY HKE HND HRT HWS HB
              go_wp2_with fail
              go_ret
              exact ⟨ret_bool HRF.out.symm, HAE.out⟩
            | true =>
              refine wpAnyH_done (by kernel_rfl) ?_ _
              have HAE : Hid (Aft X w5 ∧ P1 h (k + 1)) := Lib.hid ⟨HAY.out.trans HA5.out, HNX.out (by trivial) (by trivial) (HORD.out)⟩
              clear HCY HPC HRW HNW HNX HF2 HF3 HPV
              clear hHeld0 hHeld1 hHeld2 HSW
              go_wp2_with fail
              go_roundw
              case rel => exact ⟨k + 1, by go_num, by omega, HAE⟩
              case measure => simp [intOf]; omega
          · have hy2 : (y != 0) = true := by rw [bne_iff_ne]; exact hy
            refine wpAnyH_take (i := 17) (v := ?_) rfl (by kernel_rfl) (by kernel_rfl) (by kernel_rfl) (fun _ _ _ h => h) (Or.inl ⟨by rfl, ?yvbe17⟩) (by assumption) ?qvbe17
            case yvbe17 => (intro wz hSw; (try dsimp only at hSw); go_simp <;> with_reducible rfl)
            try simp only [Act.put, List.getElem_toArray, List.getElem_cons_zero, List.getElem_cons_succ, List.setIfInBounds_toArray, List.set_cons_zero, List.set_cons_succ]
            refine wpAnyH_take (i := 18) (v := ?_) rfl (by kernel_rfl) (by kernel_rfl) (by kernel_rfl) (fun _ _ _ h => h) (Or.inl ⟨by rfl, ?yvbe18⟩) (by assumption) ?qvbe18
            case yvbe18 => (intro wz hSw; (try dsimp only at hSw); go_simp <;> with_reducible rfl)
            try simp only [Act.put, List.getElem_toArray, List.getElem_cons_zero, List.getElem_cons_succ, List.setIfInBounds_toArray, List.set_cons_zero, List.set_cons_succ]
            refine wpAnyH_take (i := 19) (v := ?_) rfl (by kernel_rfl) (by kernel_rfl) (by kernel_rfl) (fun _ _ _ h => h) (Or.inl ⟨by rfl, ?yvbe19⟩) (by assumption) ?qvbe19
            case yvbe19 => (intro wz hSw; (try dsimp only at hSw); go_simp <;> with_reducible rfl)
            try simp only [Act.put, List.getElem_toArray, List.getElem_cons_zero, List.getElem_cons_succ, List.setIfInBounds_toArray, List.set_cons_zero, List.set_cons_succ]
            refine wpAnyH_take (i := 20) (v := undef) rfl (by kernel_rfl) (by kernel_rfl) (by kernel_rfl) (fun _ _ _ h => h) (Or.inr ⟨by rfl, rfl⟩) (by assumption) ?qvbe20
            try simp only [Act.put, List.getElem_toArray, List.getElem_cons_zero, List.getElem_cons_succ, List.setIfInBounds_toArray, List.set_cons_zero, List.set_cons_succ]
            refine wpAnyH_take (i := 21) (v := undef) rfl (by kernel_rfl) (by kernel_rfl) (by kernel_rfl) (fun _ _ _ h => h) (Or.inr ⟨by rfl, rfl⟩) (by assumption) ?qvbe21
            try simp only [Act.put, List.getElem_toArray, List.getElem_cons_zero, List.getElem_cons_succ, List.setIfInBounds_toArray, List.set_cons_zero, List.set_cons_succ]
            refine wpAnyH_take (i := 22) (v := undef) rfl (by kernel_rfl) (by kernel_rfl) (by kernel_rfl) (fun _ _ _ h => h) (Or.inr ⟨by rfl, rfl⟩) (by assumption) ?qvbe22
            try simp only [Act.put, List.getElem_toArray, List.getElem_cons_zero, List.getElem_cons_succ, List.setIfInBounds_toArray, List.set_cons_zero, List.set_cons_succ]
            refine wpAnyH_take (i := 23) (v := undef) rfl (by kernel_rfl) (by kernel_rfl) (by kernel_rfl) (fun _ _ _ h => h) (Or.inr ⟨by rfl, rfl⟩) (by assumption) ?qvbe23
            try simp only [Act.put, List.getElem_toArray, List.getElem_cons_zero, List.getElem_cons_succ, List.setIfInBounds_toArray, List.set_cons_zero, List.set_cons_succ]
            refine wpAnyH_take (i := 24) (v := ?_) rfl (by kernel_rfl) (by kernel_rfl) (by kernel_rfl) (fun _ _ _ h => h) (Or.inl ⟨by rfl, ?yvbe24⟩) (by assumption) ?qvbe24
            case yvbe24 => (intro wz hSw; (try dsimp only at hSw); go_simp <;> with_reducible rfl)
            try simp only [Act.put, List.getElem_toArray, List.getElem_cons_zero, List.getElem_cons_succ, List.setIfInBounds_toArray, List.set_cons_zero, List.set_cons_succ]
            refine wpAnyH_done (by kernel_rfl) ?_ _
            have HRF : Hid (r = false) := Lib.hid (HF2.out hy)
            have HAE : Hid (Aft w w4) := Lib.hid ((HA.out.trans HAY.out).trans HA4.out)
            clear HCY HPC HRW HNW HNX HF2 HF3 HPV HT HO HOPS HOK2 HN1 HN2 HN3 HN4 HN5 HN6 HY HKE HND HRT HWS HB
            go_wp2_with fail
            go_ret
            exact ⟨ret_bool HRF.out.symm, HAE.out⟩
    · have hke : n1 = k := by omega
      subst hke
      have HP1 := Lib.hid HS1.out
      obtain ⟨e0, e1⟩ := HB.out wr HS1.out.1
      obtain ⟨KL, hKL⟩ : ∃ K, K = KW h.txs := ⟨_, rfl⟩
      rw [← hKL] at HKE HN4 HN5 HY
      have HKL := Lib.hid hKL
      clear hKL HS1 hlt hk HN1 HN2 HN3 HND HRT HT HOPS
      go_wp2_with fail
      refine (HKE.out wr HP1.out.1).mono ?_
      rintro e w3 ⟨v1, rfl, hi, ⟨pK, cK, rfl⟩, ha⟩
      have HA3 : Hid (Aft X w3) := Lib.hid (HP1.out.1.trans ha)
      obtain ⟨f0, f1⟩ := HB.out w3 HA3.out
      obtain ⟨p', c', e, _, hcK⟩ := hi.open_
      injection e with ea eb ec
      subst ea ec
      clear eb
      have HCK := Lib.hid hcK
      obtain ⟨m, hm⟩ : ∃ m, m = KL.length := ⟨_, rfl⟩
      rw [← hm] at HCK HN4 HY
      clear hcK ha hi HKE e0 e1
      rw [← hm]
      clear hm
      by_cases hlen : n2 = m
      · have hb : ((n2 : Int) != (m : Int)) = false := by rw [bne_eq_false_iff_eq]; omega
        have HLEN := Lib.hid hlen
        have HQ0 : Hid (P2 h 0) := Lib.hid fun j hj => by omega
        clear hlen
        go_wp2_with fail
        clear hb
        go_loopw [57] (fun s57 wr => ∃ k : Nat, s57 = .int .i64 (k : Int) ∧ k ≤ n2 ∧ Hid (Aft w3 wr ∧ P2 h k)) (fun s57 _ => n2 - (intOf s57).toNat)
        case atStart => exact ⟨0, rfl, Nat.zero_le _, Lib.hid ⟨Aft.refl _, HQ0.out⟩⟩
        case round =>
          clear HQ0
          obtain ⟨k, rfl, hk, HS1⟩ := hrel
          by_cases hlt : k < n2
          · have hltx : k < h.ords.length := by rw [← HE2.out]; exact hlt
            have hkm : k < m := by rw [← HLEN.out]; exact hlt
            obtain ⟨g, o, sp, sc, rfl, hg, c0, c1, hs1⟩ := HO.out.at_ hltx
            have HW1 := Lib.hid ((HA.out.trans HA3.out).trans HS1.out.1)
            have c0 := HW1.out.cell hg c0
            have c1 := HW1.out.cell hg c1
            have hg := Nat.lt_of_lt_of_le hg HW1.out.size
            obtain ⟨gK, oK, rfl, _, hgK, dK⟩ := HCK.out k hkm
            have dK := HS1.out.1.cell hgK dK
            have hgK := Nat.lt_of_lt_of_le hgK HS1.out.1.size
            have hkI : (k : Int) < (n2 : Int) := by omega
            have hkJ : (k : Int) < (m : Int) := by omega
            have HOL := Lib.hid (HOK2.out k hlt)
            have HNX := Lib.hid (fun (h2 : (h.ords.getD k Ordr.zero).key = KL.getD k 0) (h3 : Om.permB (h.ords.getD k Ordr.zero).txs (wrsL h.txs (h.ords.getD k Ordr.zero).key) = true) => HS1.out.2.next (by rw [← HKL.out]; exact h2) h3)
            have HN5k := Lib.hid (HN5.out k hlt)
            have HN6k := Lib.hid (HN6.out k hlt)
            have HSA := Lib.hid HS1.out.1
            generalize h.ords.getD k Ordr.zero = t at c0 c1 hs1 HOL HNX HN5k HN6k
            obtain ⟨ti, tl⟩ := t
            simp only at c0 c1 hs1 HOL HNX HN5k HN6k
            obtain ⟨ky, hky⟩ : ∃ z, z = KL.getD k 0 := ⟨_, rfl⟩
            rw [← hky] at dK HNX HN5k
            obtain ⟨Y, hY⟩ : ∃ Y, Y = wr.alloc (.cells #[.int .i64 ti, .slice sp tl.length sc] 45) := ⟨_, rfl⟩
            have HAY : Hid (Aft X Y) := Lib.hid (by rw [hY]; exact (HA3.out.trans HSA.out).lay _)
            have HA3Y : Hid (Aft w3 Y) := Lib.hid (by rw [hY]; exact HSA.out.lay _)
            have HCY : Hid (∀ W, Aft Y W → (W.cell? ⟨w.heap.size, 0, none⟩ = some (.slice p n1 c) ∧ W.cell? ⟨w.heap.size, 1, none⟩ = some (.slice (some ⟨g, o, none⟩) n2 d)) ∧ W.cell? ⟨wr.heap.size, 0, none⟩ = some (.int .i64 ti) ∧ W.cell? ⟨wr.heap.size, 1, none⟩ = some (.slice sp tl.length sc) ∧ W.cell? ⟨gK, oK + k, none⟩ = some (.int .i64 ky)) := Lib.hid fun W hW => by
              have e : Y.heap[wr.heap.size]? = some (.cells #[.int .i64 ti, .slice sp tl.length sc] 45) := by rw [hY]; exact heap_alloc_at _ _ _ rfl
              have h0 := (hW.block _ (heap_lt e)).trans e
              have h1 : Aft wr Y := by rw [hY]; exact Aft.one _
              exact ⟨HB.out W (HAY.out.trans hW), by simp [World.cell?, h0], by simp [World.cell?, h0], (h1.trans hW).cell hgK dK⟩
            have HWW : Hid (∀ W, Aft Y W → Calls Tryz.prog 28 #[.agg #[.slice p n1 c, .slice (some ⟨g, o, none⟩) n2 d], .int .i64 ti] W (fun e w' => ∃ v1, e = .returned v1 ∧ Ints 0 w' v1 (wrsL h.txs ti) ∧ (∃ p c, v1 = .slice p (wrsL h.txs ti).length c) ∧ Aft W w')) := Lib.hid fun W hW => HWS.out W ti (HAY.out.trans hW)
            have HPM : Hid (∀ W v1, Aft Y W → Ints 0 W v1 (wrsL h.txs ti) → Calls Tryz.prog 27 #[.slice sp tl.length sc, v1] W fun e w' => e = .returned (.bool (Om.permB tl (wrsL h.txs ti))) ∧ W = w') := Lib.hid fun W v1 hW hi => Or.rperm_any W ((hs1.below ((HA.out.trans HAY.out).trans hW)).2) hi (by have := HOL.out; omega)
            generalize Om.permB tl (wrsL h.txs ti) = b at HPM HNX HN6k
            generalize wrsL h.txs ti = wl at HWW HPM
            generalize tl.length = tn at c1 hY HCY HPM
            have hbw : w.heap.size < wr.heap.size := Nat.lt_of_lt_of_le (Nat.lt_of_lt_of_le HBL.out HA3.out.size) HSA.out.size
            clear HS1 hs1 HOL hky
            go_upto_region 15 with fail
            rw [← hY]
            clear hY
            refine wp_region_held_drew (S := fun Z => (Z.cell? ⟨w.heap.size, 0, none⟩ = some (.slice p n1 c) ∧ Z.cell? ⟨w.heap.size, 1, none⟩ = some (.slice (some ⟨g, o, none⟩) n2 d)) ∧ Z.cell? ⟨wr.heap.size, 0, none⟩ = some (.int .i64 ti) ∧ Z.cell? ⟨wr.heap.size, 1, none⟩ = some (.slice sp tn sc) ∧ Z.cell? ⟨gK, oK + k, none⟩ = some (.int .i64 ky)) (by kernel_rfl) (HCY.out _ ((Aft.refl Y).drew 1)) (fun hHeld0 => ?_)
            refine wpAnyH_take (i := 0) (v := ?_) rfl (by kernel_rfl) (by kernel_rfl) (by kernel_rfl) (fun _ _ _ h => h) (Or.inl ⟨by rfl, ?yq0⟩) (by assumption) ?qq0
            case yq0 => (intro wz hSw; (try dsimp only at hSw); go_simp <;> with_reducible rfl)
            try simp only [Act.put, List.getElem_toArray, List.getElem_cons_zero, List.setIfInBounds_toArray, List.set_cons_zero, List.set_cons_succ]
            refine wpAnyH_take (i := 1) (v := ?_) rfl (by kernel_rfl) (by kernel_rfl) (by kernel_rfl) (fun _ _ _ h => h) (Or.inl ⟨by rfl, ?yq1⟩) (by assumption) ?qq1
            case yq1 => (intro wz hSw; (try dsimp only at hSw); go_simp <;> with_reducible rfl)
            try simp only [Act.put, List.getElem_toArray, List.getElem_cons_zero, List.getElem_cons_succ, List.setIfInBounds_toArray, List.set_cons_zero, List.set_cons_succ]
            refine wpAnyH_take (i := 2) (v := ?_) rfl (by kernel_rfl) (by kernel_rfl) (by kernel_rfl) (fun _ _ _ h => h) (Or.inl ⟨by rfl, ?yq2⟩) (by assumption) ?qq2
            case yq2 => (intro wz hSw; (try dsimp only at hSw); go_simp <;> with_reducible rfl)
            try simp only [Act.put, List.getElem_toArray, List.getElem_cons_zero, List.getElem_cons_succ, List.setIfInBounds_toArray, List.set_cons_zero, List.set_cons_succ]
            refine wpAnyH_take (i := 3) (v := ?_) rfl (by kernel_rfl) (by kernel_rfl) (by kernel_rfl) (fun _ _ _ h => h) (Or.inl ⟨by rfl, ?yq3⟩) (by assumption) ?qq3
            case yq3 => (intro wz hSw; (try dsimp only at hSw); go_simp <;> with_reducible rfl)
            try simp only [Act.put, List.getElem_toArray, List.getElem_cons_zero, List.getElem_cons_succ, List.setIfInBounds_toArray, List.set_cons_zero, List.set_cons_succ]
            refine wpAnyH_take (i := 4) (v := ?_) rfl (by kernel_rfl) (by kernel_rfl) (by kernel_rfl) (fun _ _ _ h => h) (Or.inl ⟨by rfl, ?yq4⟩) (by assumption) ?qq4
            case yq4 => (intro wz hSw; (try dsimp only at hSw); go_simp <;> with_reducible rfl)
            try simp only [Act.put, List.getElem_toArray, List.getElem_cons_zero, List.getElem_cons_succ, List.setIfInBounds_toArray, List.set_cons_zero, List.set_cons_succ]
            refine wpAnyH_take (i := 5) (v := ?_) rfl (by kernel_rfl) (by kernel_rfl) (by kernel_rfl) (fun _ _ _ h => h) (Or.inl ⟨by rfl, ?yq5⟩) (by assumption) ?qq5
            case yq5 => (intro wz hSw; (try dsimp only at hSw); go_simp <;> with_reducible rfl)
            try simp only [Act.put, List.getElem_toArray, List.getElem_cons_zero, List.getElem_cons_succ, List.setIfInBounds_toArray, List.set_cons_zero, List.set_cons_succ]
            by_cases hkk : ti = ky
            · have hkb : (ti != ky) = false := by rw [bne_eq_false_iff_eq]; exact hkk
              have HKK := Lib.hid hkk
              clear hkk
              refine wpAnyH_take (i := 6) (v := ?_) rfl (by kernel_rfl) (by kernel_rfl) (by kernel_rfl) (fun _ _ _ h => h) (Or.inl ⟨by rfl, ?yqa6⟩) (by assumption) ?qqa6
              case yqa6 => (intro wz hSw; (try dsimp only at hSw); go_simp <;> with_reducible rfl)
              try simp only [Act.put, List.getElem_toArray, List.getElem_cons_zero, List.getElem_cons_succ, List.setIfInBounds_toArray, List.set_cons_zero, List.set_cons_succ]
              refine wpAnyH_take (i := 7) (v := ?_) rfl (by kernel_rfl) (by kernel_rfl) (by kernel_rfl) (fun _ _ _ h => h) (Or.inl ⟨by rfl, ?yqa7⟩) (by assumption) ?qqa7
              case yqa7 => (intro wz hSw; (try dsimp only at hSw); go_simp <;> with_reducible rfl)
              try simp only [Act.put, List.getElem_toArray, List.getElem_cons_zero, List.getElem_cons_succ, List.setIfInBounds_toArray, List.set_cons_zero, List.set_cons_succ]
              refine wpAnyH_take (i := 8) (v := ?_) rfl (by kernel_rfl) (by kernel_rfl) (by kernel_rfl) (fun _ _ _ h => h) (Or.inl ⟨by rfl, ?yqa8⟩) (by assumption) ?qqa8
              case yqa8 => (intro wz hSw; (try dsimp only at hSw); go_simp <;> with_reducible rfl)
              try simp only [Act.put, List.getElem_toArray, List.getElem_cons_zero, List.getElem_cons_succ, List.setIfInBounds_toArray, List.set_cons_zero, List.set_cons_succ]
              refine wpAnyH_take (i := 9) (v := ?_) rfl (by kernel_rfl) (by kernel_rfl) (by kernel_rfl) (fun _ _ _ h => h) (Or.inl ⟨by rfl, ?yqa9⟩) (by assumption) ?qqa9
              case yqa9 => (intro wz hSw; (try dsimp only at hSw); go_simp <;> with_reducible rfl)
              try simp only [Act.put, List.getElem_toArray, List.getElem_cons_zero, List.getElem_cons_succ, List.setIfInBounds_toArray, List.set_cons_zero, List.set_cons_succ]
              refine wpAnyH_take (i := 10) (v := ?_) rfl (by kernel_rfl) (by kernel_rfl) (by kernel_rfl) (fun _ _ _ h => h) (Or.inl ⟨by rfl, ?yqa10⟩) (by assumption) ?qqa10
              case yqa10 => (intro wz hSw; (try dsimp only at hSw); go_simp <;> with_reducible rfl)
              try simp only [Act.put, List.getElem_toArray, List.getElem_cons_zero, List.getElem_cons_succ, List.setIfInBounds_toArray, List.set_cons_zero, List.set_cons_succ]
              refine wpAnyH_take (i := 11) (v := ?_) rfl (by kernel_rfl) (by kernel_rfl) (by kernel_rfl) (fun _ _ _ h => h) (Or.inl ⟨by rfl, ?yqa11⟩) (by assumption) ?qqa11
              case yqa11 => (intro wz hSw; (try dsimp only at hSw); go_simp <;> with_reducible rfl)
              try simp only [Act.put, List.getElem_toArray, List.getElem_cons_zero, List.getElem_cons_succ, List.setIfInBounds_toArray, List.set_cons_zero, List.set_cons_succ]
              refine wpAnyH_take (i := 12) (v := ?_) rfl (by kernel_rfl) (by kernel_rfl) (by kernel_rfl) (fun _ _ _ h => h) (Or.inl ⟨by rfl, ?yqa12⟩) (by assumption) ?qqa12
              case yqa12 => (intro wz hSw; (try dsimp only at hSw); go_simp <;> with_reducible rfl)
              try simp only [Act.put, List.getElem_toArray, List.getElem_cons_zero, List.getElem_cons_succ, List.setIfInBounds_toArray, List.set_cons_zero, List.set_cons_succ]
              refine wpAnyH_ready (rs := [13]) (by kernel_rfl) (by simp) ?_
              refine AllReadyH.cons rfl (fun K hK => ?_) AllReadyH.nil
              go_simp
              refine (HWW.out Y.drew ((Aft.refl Y).drew 1)).mono ?_
              rintro e w5 ⟨v1, rfl, hi, ⟨p1, c1', rfl⟩, ha⟩
              have HA5 : Hid (Aft Y w5) := Lib.hid (((Aft.refl Y).drew 1).trans ha)
              have HP5 := Lib.hid (HPM.out w5 _ HA5.out hi)
              clear ha hi HWW HPM
              try go_wp2_with fail
              refine hK.out _ _ (HCY.out _ HA5.out) (fun hHeld1 => ?_)
              clear hK K
              try simp only [Act.put, List.getElem_toArray, List.getElem_cons_zero, List.getElem_cons_succ, List.setIfInBounds_toArray, List.set_cons_zero, List.set_cons_succ]
              refine wpAnyH_ready (rs := [14]) (by kernel_rfl) (by simp) ?_
              refine AllReadyH.cons rfl (fun K hK => ?_) AllReadyH.nil
              go_simp
              refine HP5.out.mono ?_
              rintro e w6 ⟨rfl, rfl⟩
              clear HP5
              try go_wp2_with fail
              refine hK.out _ _ (HCY.out _ HA5.out) (fun hHeld2 => ?_)
              clear hK K
              try simp only [Act.put, List.getElem_toArray, List.getElem_cons_zero, List.getElem_cons_succ, List.setIfInBounds_toArray, List.set_cons_zero, List.set_cons_succ]
              refine wpAnyH_take (i := 15) (v := ?_) rfl (by kernel_rfl) (by kernel_rfl) (by kernel_rfl) (fun _ _ _ h => h) (Or.inl ⟨by rfl, ?yqa15⟩) (by assumption) ?qqa15
              case yqa15 => (intro wz hSw; (try dsimp only at hSw); go_simp <;> with_reducible rfl)
              try simp only [Act.put, List.getElem_toArray, List.getElem_cons_zero, List.getElem_cons_succ, List.setIfInBounds_toArray, List.set_cons_zero, List.set_cons_succ]
              refine wpAnyH_take (i := 16) (v := ?_) rfl (by kernel_rfl) (by kernel_rfl) (by kernel_rfl) (fun _ _ _ h => h) (Or.inl ⟨by rfl, ?yqa16⟩) (by assumption) ?qqa16
              case yqa16 => (intro wz hSw; (try dsimp only at hSw); go_simp <;> with_reducible rfl)
              try simp only [Act.put, List.getElem_toArray, List.getElem_cons_zero, List.getElem_cons_succ, List.setIfInBounds_toArray, List.set_cons_zero, List.set_cons_succ]
              cases b with
              | false =>
                refine wpAnyH_done (by kernel_rfl) ?_ _
                have HRF : Hid (r = false) := Lib.hid (HN6k.out rfl)
                have HAE : Hid (Aft w w5) := Lib.hid ((HA.out.trans HAY.out).trans HA5.out)
                clear HCY HN5k HN6k HNX HO HOK2 HN4 HN5 HN6 HY HWS HB HCK
                go_wp2_with fail
                go_ret
                exact ⟨ret_bool HRF.out.symm, HAE.out⟩
              | true =>
                refine wpAnyH_done (by kernel_rfl) ?_ _
                have HAE : Hid (Aft w3 w5 ∧ P2 h (k + 1)) := Lib.hid ⟨HA3Y.out.trans HA5.out, HNX.out HKK.out (by trivial)⟩
                clear HCY HN5k HN6k HNX
                clear hHeld0 hHeld1 hHeld2
                go_wp2_with fail
                go_roundw
                case rel => exact ⟨k + 1, by go_num, by omega, HAE⟩
                case measure => simp [intOf]; omega
            · have hkb : (ti != ky) = true := by rw [bne_iff_ne]; exact hkk
              refine wpAnyH_take (i := 6) (v := ?_) rfl (by kernel_rfl) (by kernel_rfl) (by kernel_rfl) (fun _ _ _ h => h) (Or.inl ⟨by rfl, ?yqb6⟩) (by assumption) ?qqb6
              case yqb6 => (intro wz hSw; (try dsimp only at hSw); go_simp <;> with_reducible rfl)
              try simp only [Act.put, List.getElem_toArray, List.getElem_cons_zero, List.getElem_cons_succ, List.setIfInBounds_toArray, List.set_cons_zero, List.set_cons_succ]
              refine wpAnyH_take (i := 7) (v := ?_) rfl (by kernel_rfl) (by kernel_rfl) (by kernel_rfl) (fun _ _ _ h => h) (Or.inl ⟨by rfl, ?yqb7⟩) (by assumption) ?qqb7
              case yqb7 => (intro wz hSw; (try dsimp only at hSw); go_simp <;> with_reducible rfl)
              try simp only [Act.put, List.getElem_toArray, List.getElem_cons_zero, List.getElem_cons_succ, List.setIfInBounds_toArray, List.set_cons_zero, List.set_cons_succ]
              refine wpAnyH_take (i := 8) (v := undef) rfl (by kernel_rfl) (by kernel_rfl) (by kernel_rfl) (fun _ _ _ h => h) (Or.inr ⟨by rfl, rfl⟩) (by assumption) ?qqb8
              try simp only [Act.put, List.getElem_toArray, List.getElem_cons_zero, List.getElem_cons_succ, List.setIfInBounds_toArray, List.set_cons_zero, List.set_cons_succ]
              refine wpAnyH_take (i := 9) (v := undef) rfl (by kernel_rfl) (by kernel_rfl) (by kernel_rfl) (fun _ _ _ h => h) (Or.inr ⟨by rfl, rfl⟩) (by assumption) ?qqb9
              try simp only [Act.put, List.getElem_toArray, List.getElem_cons_zero, List.getElem_cons_succ, List.setIfInBounds_toArray, List.set_cons_zero, List.set_cons_succ]
              refine wpAnyH_take (i := 10) (v := undef) rfl (by kernel_rfl) (by kernel_rfl) (by kernel_rfl) (fun _ _ _ h => h) (Or.inr ⟨by rfl, rfl⟩) (by assumption) ?qqb10
              try simp only [Act.put, List.getElem_toArray, List.getElem_cons_zero, List.getElem_cons_succ, List.setIfInBounds_toArray, List.set_cons_zero, List.set_cons_succ]
              refine wpAnyH_take (i := 11) (v := undef) rfl (by kernel_rfl) (by kernel_rfl) (by kernel_rfl) (fun _ _ _ h => h) (Or.inr ⟨by rfl, rfl⟩) (by assumption) ?qqb11
              try simp only [Act.put, List.getElem_toArray, List.getElem_cons_zero, List.getElem_cons_succ, List.setIfInBounds_toArray, List.set_cons_zero, List.set_cons_succ]
              refine wpAnyH_take (i := 12) (v := undef) rfl (by kernel_rfl) (by kernel_rfl) (by kernel_rfl) (fun _ _ _ h => h) (Or.inr ⟨by rfl, rfl⟩) (by assumption) ?qqb12
              try simp only [Act.put, List.getElem_toArray, List.getElem_cons_zero, List.getElem_cons_succ, List.setIfInBounds_toArray, List.set_cons_zero, List.set_cons_succ]
              refine wpAnyH_take (i := 13) (v := undef) rfl (by kernel_rfl) (by kernel_rfl) (by kernel_rfl) (fun _ _ _ h => h) (Or.inr ⟨by rfl, rfl⟩) (by assumption) ?qqb13
              try simp only [Act.put, List.getElem_toArray, List.getElem_cons_zero, List.getElem_cons_succ, List.setIfInBounds_toArray, List.set_cons_zero, List.set_cons_succ]
              refine wpAnyH_take (i := 14) (v := undef) rfl (by kernel_rfl) (by kernel_rfl) (by kernel_rfl) (fun _ _ _ h => h) (Or.inr ⟨by rfl, rfl⟩) (by assumption) ?qqb14
              try simp only [Act.put, List.getElem_toArray, List.getElem_cons_zero, List.getElem_cons_succ, List.setIfInBounds_toArray, List.set_cons_zero, List.set_cons_succ]
              refine wpAnyH_take (i := 15) (v := undef) rfl (by kernel_rfl) (by kernel_rfl) (by kernel_rfl) (fun _ _ _ h => h) (Or.inr ⟨by rfl, rfl⟩) (by assumption) ?qqb15
              try simp only [Act.put, List.getElem_toArray, List.getElem_cons_zero, List.getElem_cons_succ, List.setIfInBounds_toArray, List.set_cons_zero, List.set_cons_succ]
              refine wpAnyH_take (i := 16) (v := ?_) rfl (by kernel_rfl) (by kernel_rfl) (by kernel_rfl) (fun _ _ _ h => h) (Or.inl ⟨by rfl, ?yqb16⟩) (by assumption) ?qqb16
              case yqb16 => (intro wz hSw; (try dsimp only at hSw); go_simp <;> with_reducible rfl)
              try simp only [Act.put, List.getElem_toArray, List.getElem_cons_zero, List.getElem_cons_succ, List.setIfInBounds_toArray, List.set_cons_zero, List.set_cons_succ]
              have HAD : Hid (Aft Y Y.drew) := Lib.hid ((Aft.refl Y).drew 1)
              refine wpAnyH_done (by kernel_rfl) ?_ _
              have HRF : Hid (r = false) := Lib.hid (HN5k.out hkk)
              have HAE : Hid (Aft w Y.drew) := Lib.hid ((HA.out.trans HAY.out).trans HAD.out)
              clear HCY HN5k HN6k HNX HO HOK2 HN4 HN5 HN6 HY HWS HB HCK
              go_wp2_with fail
              go_ret
              exact ⟨ret_bool HRF.out.symm, HAE.out⟩
          · have hke : n2 = k := by omega
            subst hke
            have HRT2 : Hid (r = true ∧ Aft w wr) := Lib.hid ⟨HY.out HP1.out.2 HLEN.out HS1.out.2, (HA.out.trans HA3.out).trans HS1.out.1⟩
            clear HS1 HO HOK2 HN4 HN5 HN6 HY HWS HB HCK
            go_wp2_with fail
            go_ret
            exact ⟨ret_bool HRT2.out.1.symm, HRT2.out.2⟩
      · have hb : ((n2 : Int) != (m : Int)) = true := by rw [bne_iff_ne]; omega
        have HRF : Hid (r = false ∧ Aft w w3) := Lib.hid ⟨HN4.out hlen, HA.out.trans HA3.out⟩
        clear HO HOK2 HN4 HN5 HN6 HY HWS HB HCK
        go_wp2_with fail
        go_ret
        exact ⟨ret_bool HRF.out.1.symm, HRF.out.2⟩
end Go.Proofs.YtcmafmdcgkpagaaGreat.Hi
