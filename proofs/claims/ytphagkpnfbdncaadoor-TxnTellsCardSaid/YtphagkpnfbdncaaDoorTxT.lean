/-
  The law of TxnTells. Not a statement of the seat.
-/
import Derived.Test.YtphagkpnfbdncaaDoorTxA
import Derived.Test.YtphagkpnfbdncaaDoorTxR3
namespace Go.Proofs.YtphagkpnfbdncaaDoor.Tx
open Go.ChangeShapes Go.WideShapes Go.ChangeAt Go.RowKit Base F Lst Nu
theorem sameT_me (id : Int) (d : Bool) (l : List Opr) : sameT id id d d l l = true := by unfold sameT; rw [(Op.sameO_iff l l).2 rfl]; simp
theorem kr_right {b : Nat} {W : World} {p : Option Addr} {c : Nat} {l : List Opr} (id : Int) (d : Bool) (n : Int) (h : Oprs b W (.slice p l.length c) l) (hcap : l.length ≤ c) (hl : l.length ≤ 100000) (hn : rightT id l = n) : Calls Tryd.prog 7 #[.agg #[.int .i64 id, .bool d, .slice p l.length c]] W fun e w' => e = .returned (.int .i64 n) ∧ Aft W w' := by
  have := rright_any id d W h hcap hl
  rw [hn] at this
  exact this
theorem kr_writes {b : Nat} {W : World} {s : Value} {l : List Opr} (key : Int) (n : Int) (h : Oprs b W s l) (hl : l.length ≤ 100000) (hn : ((wrN l key : Nat) : Int) = n) : Calls Tryd.prog 9 #[s, .int .i64 key] W fun e w' => e = .returned (.int .i64 n) ∧ Aft W w' := by
  have := rwrites_any key W h (by omega)
  rw [hn] at this
  exact this
theorem kr_keys {b : Nat} {W : World} {s : Value} {l : List Opr} (id : Int) (d f : Bool) (ks : List Int) (h : Oprs b W s l) (hl : l.length ≤ 100000) (hn : keysO (tch f l) = ks) : Calls Tryd.prog 12 #[.agg #[.int .i64 id, .bool d, s], .bool f] W fun e w' => ∃ v, e = .returned v ∧ Ints 0 w' v ks ∧ Aft W w' := by
  have hb : ks.length ≤ 100000 := by rw [← hn]; have := keysL_len ((tch f l).map Opr.k); have := tch_len f l; unfold keysO; simp at *; omega
  have := rkeys_any id d f W h hl
  rw [hn] at this
  exact this.mono fun e w' ⟨v, h1, h2, h3⟩ => ⟨v, h1, (h2.ints (by omega)).mono (Nat.zero_le _), h3⟩
theorem kr_needs {b : Nat} {W : World} {s : Value} {l : List Opr} (id : Int) (d : Bool) (vs : List Ver) (h : Oprs b W s l) (hl : l.length ≤ 100000) (hn : needsL id l = vs) : Calls Tryd.prog 16 #[.agg #[.int .i64 id, .bool d, s]] W fun e w' => ∃ v, e = .returned v ∧ Vers 0 w' v vs ∧ Aft W w' := by
  have hb : vs.length ≤ 100000 := by rw [← hn]; have := needs_len id l; omega
  have := rneeds_any id d W h hl
  rw [hn] at this
  exact this.mono fun e w' ⟨v, h1, h2, h3⟩ => ⟨v, h1, (h2.list (by omega)).mono (Nat.zero_le _), h3⟩
theorem kr_weight {b : Nat} {W : World} {s : Value} {l : List Opr} (id : Int) (d : Bool) (n : Int) (h : Oprs b W s l) (hl : l.length ≤ 100000) (hn : (l.length : Int) + 1 = n) : Calls Tryd.prog 18 #[.agg #[.int .i64 id, .bool d, s]] W fun e w' => e = .returned (.int .i64 n) ∧ Aft W w' := by
  have := rweight_any id d W h (by omega)
  rw [hn] at this
  exact this
theorem kr_text {b : Nat} {W : World} {s : Value} {l : List Opr} (id : Int) (d : Bool) (h : Oprs b W s l) (hi : -9223372036854775808 ≤ id ∧ id ≤ 9223372036854775807) (hok : ∀ x ∈ l, Opr.ok x) (hl : l.length ≤ 100000) (t : Array UInt8) (ht : textT id d l = t.toList) : Calls Tryd.prog 20 #[.agg #[.int .i64 id, .bool d, s]] W fun e w' => e = .returned (.string ⟨t⟩) ∧ Aft W w' := by
  have := rtext_any id d W h hi hok hl
  rw [ht] at this
  exact this
theorem kr_same {b1 b2 : Nat} {W : World} {s s2 : Value} {l l2 : List Opr} (id id2 : Int) (d d2 : Bool) (r : Bool) (h : Oprs b1 W s l) (h2 : Oprs b2 W s2 l2) (hr : sameT id id2 d d2 l l2 = r) : Calls Tryd.prog 22 #[.agg #[.int .i64 id, .bool d, s], .agg #[.int .i64 id2, .bool d2, s2]] W fun e w' => e = .returned (.bool r) ∧ Aft W w' := by
  have := rsame_tx id id2 d d2 W h h2
  rw [hr] at this
  exact this
theorem kr_bare {b : Nat} {W : World} {s : Value} {l : List Opr} (id : Int) (d : Bool) (zs : List Opr) (h : Oprs b W s l) (hl : l.length ≤ 100000) (hn : bareL l = zs) (m : Nat) (hm : zs.length = m) : Calls Tryd.prog 24 #[.agg #[.int .i64 id, .bool d, s]] W fun e w' => ∃ p c, e = .returned (.agg #[.int .i64 id, .bool d, .slice p m c]) ∧ Oprs 0 w' (.slice p m c) zs ∧ Aft W w' := by
  have := rbare_any id d W h hl
  have hz : zs.length ≤ 100000 := by rw [← hn]; have := bareL_len l; omega
  rw [hn] at this
  refine this.mono fun e w' ⟨v, h1, h2, h3⟩ => ?_
  obtain ⟨p, c, rfl, _⟩ := ownOpr_slice h2
  have h4 := (h2.list (by omega)).mono (Nat.zero_le _)
  rw [hm] at h4 h1
  exact ⟨p, c, h1, h4, h3⟩
set_option maxRecDepth 100000 in
set_option maxHeartbeats 16000000 in
theorem txtells_any {p p2 : Option Addr} {c c2 : Nat} {l l2 : List Opr} (id id2 key : Int) (d d2 : Bool) (w : World) (hp : Pow w) (hi : -9223372036854775808 ≤ id ∧ id ≤ 9223372036854775807) (h : Oprs 0 w (.slice p l.length c) l) (hcap : l.length ≤ c) (hok : ∀ x ∈ l, Opr.ok x) (h2 : Oprs 0 w (.slice p2 l2.length c2) l2) : Calls Tryd.prog 3 #[.agg #[.int .i64 id, .bool d, .slice p l.length c], .agg #[.int .i64 id2, .bool d2, .slice p2 l2.length c2], .int .i64 key] w (LivesP w) := by
  have HLV : Hid (∀ o o2, Calls Tryd.prog 5 #[] ((w.alloc o).alloc o2) (LivesP ((w.alloc o).alloc o2))) := Lib.hid fun o o2 => lives _ (hp.below ((Aft.one o).lay o2))
  have HE : Hid (∀ W, Aft w W → LivesP w (.returned (.bool true)) W) := Lib.hid fun W hW => ⟨rfl, hW⟩
  have HPW := Lib.hid hp
  have HO := Lib.hid h
  have HO2 := Lib.hid h2
  clear h h2 hp
  generalize LivesP w = Post at HE ⊢
  by_cases hl : 200 < l.length
  · have hl' : (200 : Int) < (l.length : Int) := by omega
    go_enter Tryd.func3, Tryd.ntmps3
    go_wp2_with (go_at_call 5; refine (HLV.out _ _).mono ?_; rintro e w1 ⟨rfl, h1⟩; have H1 := Lib.hid (((Aft.one _).lay _).trans h1); clear h1)
    exact HE.out _ H1.out
  by_cases hl2 : 200 < l2.length
  · have hl' : ¬ (200 : Int) < (l.length : Int) := by omega
    have hl2' : (200 : Int) < (l2.length : Int) := by omega
    go_enter Tryd.func3, Tryd.ntmps3
    go_wp2_with (go_at_call 5; refine (HLV.out _ _).mono ?_; rintro e w1 ⟨rfl, h1⟩; have H1 := Lib.hid (((Aft.one _).lay _).trans h1); clear h1)
    exact HE.out _ H1.out
  · have hl' : ¬ (200 : Int) < (l.length : Int) := by omega
    have hl2' : ¬ (200 : Int) < (l2.length : Int) := by omega
    have HL : Hid (l.length ≤ 100000) := Lib.hid (by omega)
    have HCAP := Lib.hid hcap
    have HI := Lib.hid hi
    have HOK := Lib.hid hok
    obtain ⟨z, hz⟩ : ∃ z, rightT id l = z := ⟨_, rfl⟩
    have HZ := Lib.hid hz
    obtain ⟨q, hq⟩ : ∃ q, ((wrN l key : Nat) : Int) = q := ⟨_, rfl⟩
    have HQ := Lib.hid hq
    obtain ⟨q2, hq2⟩ : ∃ q : Int, (l.length : Int) + 1 = q := ⟨_, rfl⟩
    have HQ2 := Lib.hid hq2
    obtain ⟨ks, hks⟩ : ∃ ks, keysO (bareL l) = ks := ⟨_, rfl⟩
    have HKS := Lib.hid hks
    obtain ⟨kt, hkt⟩ : ∃ ks, keysO l = ks := ⟨_, rfl⟩
    have HKT := Lib.hid hkt
    obtain ⟨vs, hvs⟩ : ∃ vs, needsL id l = vs := ⟨_, rfl⟩
    have HV := Lib.hid hvs
    have HVL : Hid (vs.length ≤ 100000) := Lib.hid (by rw [← hvs]; have := needs_len id l; omega)
    obtain ⟨tx, htx⟩ : ∃ t : Array UInt8, textT id d l = t.toList := ⟨(textT id d l).toArray, by simp⟩
    have HTX := Lib.hid htx
    obtain ⟨r, hr⟩ : ∃ r, sameT id id2 d d2 l l2 = r := ⟨_, rfl⟩
    have HSM := Lib.hid hr
    obtain ⟨bl, hbl⟩ : ∃ b, bareL l = b := ⟨_, rfl⟩
    have HBL := Lib.hid hbl
    obtain ⟨m, hm⟩ : ∃ m, bl.length = m := ⟨_, rfl⟩
    have HM := Lib.hid hm
    have HSB := Lib.hid (sameT_me id d bl)
    have hbb : ((⟨tx⟩ : ByteArray) == ⟨tx⟩) = true := by first | rfl | (show (tx == tx) = true; simp) | (show decide ((⟨tx⟩ : ByteArray) = ⟨tx⟩) = true; simp)
    have hrr : (r == r) = true := by simp
    have hzz : (z == z) = true := by simp
    have hqq : (q == q) = true := by simp
    have hqq2 : (q2 == q2) = true := by simp
    clear hz hq hq2 hks hkt hvs htx hr hbl hm hok hi hcap hl hl2
    obtain ⟨X0, hX0⟩ : ∃ X0, X0 = (w.alloc (.cells #[.int .i64 id, .bool d, .slice p l.length c] 24)).alloc (.cells #[.int .i64 id2, .bool d2, .slice p2 l2.length c2] 24) := ⟨_, rfl⟩
    have HA0 : Hid (Aft w X0) := Lib.hid (by rw [hX0]; exact (Aft.one _).lay _)
    have HX : Hid (∀ X, Aft X0 X → ((X.cell? ⟨w.heap.size, 0, none⟩ = some (.int .i64 id) ∧ X.cell? ⟨w.heap.size, 1, none⟩ = some (.bool d) ∧ X.cell? ⟨w.heap.size, 2, none⟩ = some (.slice p l.length c)) ∧ (X.cell? ⟨w.heap.size + 1, 0, none⟩ = some (.int .i64 id2) ∧ X.cell? ⟨w.heap.size + 1, 1, none⟩ = some (.bool d2) ∧ X.cell? ⟨w.heap.size + 1, 2, none⟩ = some (.slice p2 l2.length c2))) ∧ Oprs 0 X (.slice p l.length c) l ∧ Oprs 0 X (.slice p2 l2.length c2) l2) := Lib.hid (by
      have e0 : X0.heap[w.heap.size]? = some (boxT id d (.slice p l.length c)) := by rw [hX0]; exact heap_alloc_lt _ _ _ _ (heap_alloc_at _ _ _ rfl)
      have e1 : X0.heap[w.heap.size + 1]? = some (boxT id2 d2 (.slice p2 l2.length c2)) := by rw [hX0]; exact heap_alloc_at _ _ _ (by simp)
      clear hX0
      intro X hX
      exact ⟨⟨(cellsT ((hX.block _ (heap_lt e0)).trans e0)).2.1, (cellsT ((hX.block _ (heap_lt e1)).trans e1)).2.1⟩, HO.out.below (HA0.out.trans hX), HO2.out.below (HA0.out.trans hX)⟩)
    have B0 : Hid (Aft X0 X0.drew) := Lib.hid (Below.drew (Aft.refl X0))
    go_enter Tryd.func3, Tryd.ntmps3
    go_wp2_with fail
    rw [← hX0]
    clear hX0
    try simp only [List.append_eq, List.cons_append, List.nil_append]
    refine wp_region_held_drew (S := (fun X => (X.cell? ⟨w.heap.size, 0, none⟩ = some (.int .i64 id) ∧ X.cell? ⟨w.heap.size, 1, none⟩ = some (.bool d) ∧ X.cell? ⟨w.heap.size, 2, none⟩ = some (.slice p l.length c)) ∧ (X.cell? ⟨w.heap.size + 1, 0, none⟩ = some (.int .i64 id2) ∧ X.cell? ⟨w.heap.size + 1, 1, none⟩ = some (.bool d2) ∧ X.cell? ⟨w.heap.size + 1, 2, none⟩ = some (.slice p2 l2.length c2)))) (by kernel_rfl) (HX.out _ B0.out).1 (fun hHeld0 => ?_)
    refine wpAnyH_take (i := 0) (v := ?_) rfl (by as_aux_lemma => kernel_rfl) (by as_aux_lemma => kernel_rfl) (by as_aux_lemma => kernel_rfl) (fun _ _ _ h => h) (Or.inl ⟨by as_aux_lemma => rfl, ?yt0⟩) (by assumption) ?qt0
    case yt0 => (intro wz hSw; (try dsimp only at hSw); go_simp <;> with_reducible rfl)
    try simp only [Act.put, List.getElem_toArray, List.getElem_cons_zero, List.setIfInBounds_toArray, List.set_cons_zero, List.set_cons_succ]
    refine wpAnyH_take (i := 2) (v := ?_) rfl (by as_aux_lemma => kernel_rfl) (by as_aux_lemma => kernel_rfl) (by as_aux_lemma => kernel_rfl) (fun _ _ _ h => h) (Or.inl ⟨by as_aux_lemma => rfl, ?yt2⟩) (by assumption) ?qt2
    case yt2 => (intro wz hSw; (try dsimp only at hSw); go_simp <;> with_reducible rfl)
    try simp only [Act.put, List.getElem_toArray, List.getElem_cons_zero, List.getElem_cons_succ, List.setIfInBounds_toArray, List.set_cons_zero, List.set_cons_succ]
    refine wpAnyH_ready (rs := [1]) (by as_aux_lemma => kernel_rfl) (by simp) ?_
    refine AllReadyH.cons rfl (fun K hK => ?_) AllReadyH.nil
    go_simp
    refine (k_right id d z (HX.out _ B0.out).2.1 HL.out HZ.out).mono ?_
    rintro e u1 ⟨rfl, hb⟩
    have B1 := Lib.hid (Aft.trans B0.out hb)
    clear hb
    refine hK.out _ _ (HX.out _ B1.out).1 (fun hHeld1 => ?_)
    clear hK K
    try simp only [Act.put, List.getElem_toArray, List.getElem_cons_zero, List.getElem_cons_succ, List.setIfInBounds_toArray, List.set_cons_zero, List.set_cons_succ]
    refine wpAnyH_ready (rs := [3]) (by as_aux_lemma => kernel_rfl) (by simp) ?_
    refine AllReadyH.cons rfl (fun K hK => ?_) AllReadyH.nil
    go_simp
    refine (kr_right id d z (HX.out _ B1.out).2.1 HCAP.out HL.out HZ.out).mono ?_
    rintro e u2 ⟨rfl, hb⟩
    have B2 := Lib.hid (Aft.trans B1.out hb)
    clear hb
    refine hK.out _ _ (HX.out _ B2.out).1 (fun hHeld2 => ?_)
    clear hK K
    try simp only [Act.put, List.getElem_toArray, List.getElem_cons_zero, List.getElem_cons_succ, List.setIfInBounds_toArray, List.set_cons_zero, List.set_cons_succ]
    refine wpAnyH_take (i := 4) (v := ?_) rfl (by as_aux_lemma => kernel_rfl) (by as_aux_lemma => kernel_rfl) (by as_aux_lemma => kernel_rfl) (fun _ _ _ h => h) (Or.inl ⟨by as_aux_lemma => rfl, ?yt4⟩) (by assumption) ?qt4
    case yt4 => (intro wz hSw; (try dsimp only at hSw); go_simp <;> with_reducible rfl)
    try simp only [Act.put, List.getElem_toArray, List.getElem_cons_zero, List.getElem_cons_succ, List.setIfInBounds_toArray, List.set_cons_zero, List.set_cons_succ]
    refine wpAnyH_take (i := 5) (v := ?_) rfl (by as_aux_lemma => kernel_rfl) (by as_aux_lemma => kernel_rfl) (by as_aux_lemma => kernel_rfl) (fun _ _ _ h => h) (Or.inl ⟨by as_aux_lemma => rfl, ?yt5⟩) (by assumption) ?qt5
    case yt5 => (intro wz hSw; (try dsimp only at hSw); go_simp <;> with_reducible rfl)
    try simp only [Act.put, List.getElem_toArray, List.getElem_cons_zero, List.getElem_cons_succ, List.setIfInBounds_toArray, List.set_cons_zero, List.set_cons_succ]
    refine wpAnyH_take (i := 6) (v := ?_) rfl (by as_aux_lemma => kernel_rfl) (by as_aux_lemma => kernel_rfl) (by as_aux_lemma => kernel_rfl) (fun _ _ _ h => h) (Or.inl ⟨by as_aux_lemma => rfl, ?yt6⟩) (by assumption) ?qt6
    case yt6 => (intro wz hSw; (try dsimp only at hSw); go_simp <;> with_reducible rfl)
    try simp only [Act.put, List.getElem_toArray, List.getElem_cons_zero, List.getElem_cons_succ, List.setIfInBounds_toArray, List.set_cons_zero, List.set_cons_succ]
    refine wpAnyH_take (i := 7) (v := ?_) rfl (by as_aux_lemma => kernel_rfl) (by as_aux_lemma => kernel_rfl) (by as_aux_lemma => kernel_rfl) (fun _ _ _ h => h) (Or.inl ⟨by as_aux_lemma => rfl, ?yt7⟩) (by assumption) ?qt7
    case yt7 => (intro wz hSw; (try dsimp only at hSw); go_simp <;> with_reducible rfl)
    try simp only [Act.put, List.getElem_toArray, List.getElem_cons_zero, List.getElem_cons_succ, List.setIfInBounds_toArray, List.set_cons_zero, List.set_cons_succ]
    refine wpAnyH_take (i := 9) (v := ?_) rfl (by as_aux_lemma => kernel_rfl) (by as_aux_lemma => kernel_rfl) (by as_aux_lemma => kernel_rfl) (fun _ _ _ h => h) (Or.inl ⟨by as_aux_lemma => rfl, ?yt9⟩) (by assumption) ?qt9
    case yt9 => (intro wz hSw; (try dsimp only at hSw); go_simp <;> with_reducible rfl)
    try simp only [Act.put, List.getElem_toArray, List.getElem_cons_zero, List.getElem_cons_succ, List.setIfInBounds_toArray, List.set_cons_zero, List.set_cons_succ]
    refine wpAnyH_take (i := 10) (v := ?_) rfl (by as_aux_lemma => kernel_rfl) (by as_aux_lemma => kernel_rfl) (by as_aux_lemma => kernel_rfl) (fun _ _ _ h => h) (Or.inl ⟨by as_aux_lemma => rfl, ?yt10⟩) (by assumption) ?qt10
    case yt10 => (intro wz hSw; (try dsimp only at hSw); go_simp <;> with_reducible rfl)
    try simp only [Act.put, List.getElem_toArray, List.getElem_cons_zero, List.getElem_cons_succ, List.setIfInBounds_toArray, List.set_cons_zero, List.set_cons_succ]
    refine wpAnyH_take (i := 11) (v := ?_) rfl (by as_aux_lemma => kernel_rfl) (by as_aux_lemma => kernel_rfl) (by as_aux_lemma => kernel_rfl) (fun _ _ _ h => h) (Or.inl ⟨by as_aux_lemma => rfl, ?yt11⟩) (by assumption) ?qt11
    case yt11 => (intro wz hSw; (try dsimp only at hSw); go_simp <;> with_reducible rfl)
    try simp only [Act.put, List.getElem_toArray, List.getElem_cons_zero, List.getElem_cons_succ, List.setIfInBounds_toArray, List.set_cons_zero, List.set_cons_succ]
    refine wpAnyH_ready (rs := [8]) (by as_aux_lemma => kernel_rfl) (by simp) ?_
    refine AllReadyH.cons rfl (fun K hK => ?_) AllReadyH.nil
    go_simp
    refine (k_writes id key d q (HX.out _ B2.out).2.1 HL.out HQ.out).mono ?_
    rintro e u3 ⟨rfl, hb⟩
    have B3 := Lib.hid (Aft.trans B2.out hb)
    clear hb
    refine hK.out _ _ (HX.out _ B3.out).1 (fun hHeld3 => ?_)
    clear hK K
    try simp only [Act.put, List.getElem_toArray, List.getElem_cons_zero, List.getElem_cons_succ, List.setIfInBounds_toArray, List.set_cons_zero, List.set_cons_succ]
    refine wpAnyH_ready (rs := [12]) (by as_aux_lemma => kernel_rfl) (by simp) ?_
    refine AllReadyH.cons rfl (fun K hK => ?_) AllReadyH.nil
    go_simp
    refine (kr_writes key q (HX.out _ B3.out).2.1 HL.out HQ.out).mono ?_
    rintro e u4 ⟨rfl, hb⟩
    have B4 := Lib.hid (Aft.trans B3.out hb)
    clear hb
    refine hK.out _ _ (HX.out _ B4.out).1 (fun hHeld4 => ?_)
    clear hK K
    try simp only [Act.put, List.getElem_toArray, List.getElem_cons_zero, List.getElem_cons_succ, List.setIfInBounds_toArray, List.set_cons_zero, List.set_cons_succ]
    refine wpAnyH_take (i := 13) (v := ?_) rfl (by as_aux_lemma => kernel_rfl) (by as_aux_lemma => kernel_rfl) (by as_aux_lemma => kernel_rfl) (fun _ _ _ h => h) (Or.inl ⟨by as_aux_lemma => rfl, ?yt13⟩) (by assumption) ?qt13
    case yt13 => (intro wz hSw; (try dsimp only at hSw); go_simp <;> with_reducible rfl)
    try simp only [Act.put, List.getElem_toArray, List.getElem_cons_zero, List.getElem_cons_succ, List.setIfInBounds_toArray, List.set_cons_zero, List.set_cons_succ]
    refine wpAnyH_take (i := 14) (v := ?_) rfl (by as_aux_lemma => kernel_rfl) (by as_aux_lemma => kernel_rfl) (by as_aux_lemma => kernel_rfl) (fun _ _ _ h => h) (Or.inl ⟨by as_aux_lemma => rfl, ?yt14⟩) (by assumption) ?qt14
    case yt14 => (intro wz hSw; (try dsimp only at hSw); go_simp <;> with_reducible rfl)
    try simp only [Act.put, List.getElem_toArray, List.getElem_cons_zero, List.getElem_cons_succ, List.setIfInBounds_toArray, List.set_cons_zero, List.set_cons_succ]
    refine wpAnyH_take (i := 15) (v := ?_) rfl (by as_aux_lemma => kernel_rfl) (by as_aux_lemma => kernel_rfl) (by as_aux_lemma => kernel_rfl) (fun _ _ _ h => h) (Or.inl ⟨by as_aux_lemma => rfl, ?yt15⟩) (by assumption) ?qt15
    case yt15 => (intro wz hSw; (try dsimp only at hSw); go_simp <;> with_reducible rfl)
    try simp only [Act.put, List.getElem_toArray, List.getElem_cons_zero, List.getElem_cons_succ, List.setIfInBounds_toArray, List.set_cons_zero, List.set_cons_succ]
    refine wpAnyH_take (i := 16) (v := ?_) rfl (by as_aux_lemma => kernel_rfl) (by as_aux_lemma => kernel_rfl) (by as_aux_lemma => kernel_rfl) (fun _ _ _ h => h) (Or.inl ⟨by as_aux_lemma => rfl, ?yt16⟩) (by assumption) ?qt16
    case yt16 => (intro wz hSw; (try dsimp only at hSw); go_simp <;> with_reducible rfl)
    try simp only [Act.put, List.getElem_toArray, List.getElem_cons_zero, List.getElem_cons_succ, List.setIfInBounds_toArray, List.set_cons_zero, List.set_cons_succ]
    refine wpAnyH_take (i := 18) (v := ?_) rfl (by as_aux_lemma => kernel_rfl) (by as_aux_lemma => kernel_rfl) (by as_aux_lemma => kernel_rfl) (fun _ _ _ h => h) (Or.inl ⟨by as_aux_lemma => rfl, ?yt18⟩) (by assumption) ?qt18
    case yt18 => (intro wz hSw; (try dsimp only at hSw); go_simp <;> with_reducible rfl)
    try simp only [Act.put, List.getElem_toArray, List.getElem_cons_zero, List.getElem_cons_succ, List.setIfInBounds_toArray, List.set_cons_zero, List.set_cons_succ]
    refine wpAnyH_ready (rs := [17]) (by as_aux_lemma => kernel_rfl) (by simp) ?_
    refine AllReadyH.cons rfl (fun K hK => ?_) AllReadyH.nil
    go_simp
    refine (k_keys id d ks (HX.out _ B4.out).2.1 HL.out HKS.out).mono ?_
    rintro e u5 ⟨x35, rfl, hx, hb⟩
    have F35 := Lib.hid hx
    have B5 := Lib.hid (Aft.trans B4.out hb)
    clear hb hx
    refine hK.out _ _ (HX.out _ B5.out).1 (fun hHeld5 => ?_)
    clear hK K
    try simp only [Act.put, List.getElem_toArray, List.getElem_cons_zero, List.getElem_cons_succ, List.setIfInBounds_toArray, List.set_cons_zero, List.set_cons_succ]
    refine wpAnyH_ready (rs := [19]) (by as_aux_lemma => kernel_rfl) (by simp) ?_
    refine AllReadyH.cons rfl (fun K hK => ?_) AllReadyH.nil
    go_simp
    refine (kr_keys id d false ks (HX.out _ B5.out).2.1 HL.out HKS.out).mono ?_
    rintro e u6 ⟨x37, rfl, hx, hb⟩
    have F37 := Lib.hid hx
    have B6 := Lib.hid (Aft.trans B5.out hb)
    have FP := Lib.hid (And.intro (F35.out.below hb) hx)
    clear hb hx F35 F37
    refine hK.out _ _ (HX.out _ B6.out).1 (fun hHeld6 => ?_)
    clear hK K
    try simp only [Act.put, List.getElem_toArray, List.getElem_cons_zero, List.getElem_cons_succ, List.setIfInBounds_toArray, List.set_cons_zero, List.set_cons_succ]
    refine wpAnyH_ready (rs := [20]) (by as_aux_lemma => kernel_rfl) (by simp) ?_
    refine AllReadyH.cons rfl (fun K hK => ?_) AllReadyH.nil
    go_simp
    refine (k_sameI FP.out.1 FP.out.2).mono ?_
    rintro e u7 ⟨rfl, hb⟩
    have B7 := Lib.hid (Aft.trans B6.out hb)
    clear hb
    clear FP
    refine hK.out _ _ (HX.out _ B7.out).1 (fun hHeld7 => ?_)
    clear hK K
    try simp only [Act.put, List.getElem_toArray, List.getElem_cons_zero, List.getElem_cons_succ, List.setIfInBounds_toArray, List.set_cons_zero, List.set_cons_succ]
    refine wpAnyH_take (i := 21) (v := ?_) rfl (by as_aux_lemma => kernel_rfl) (by as_aux_lemma => kernel_rfl) (by as_aux_lemma => kernel_rfl) (fun _ _ _ h => h) (Or.inl ⟨by as_aux_lemma => rfl, ?yt21⟩) (by assumption) ?qt21
    case yt21 => (intro wz hSw; (try dsimp only at hSw); go_simp <;> with_reducible rfl)
    try simp only [Act.put, List.getElem_toArray, List.getElem_cons_zero, List.getElem_cons_succ, List.setIfInBounds_toArray, List.set_cons_zero, List.set_cons_succ]
    refine wpAnyH_take (i := 22) (v := ?_) rfl (by as_aux_lemma => kernel_rfl) (by as_aux_lemma => kernel_rfl) (by as_aux_lemma => kernel_rfl) (fun _ _ _ h => h) (Or.inl ⟨by as_aux_lemma => rfl, ?yt22⟩) (by assumption) ?qt22
    case yt22 => (intro wz hSw; (try dsimp only at hSw); go_simp <;> with_reducible rfl)
    try simp only [Act.put, List.getElem_toArray, List.getElem_cons_zero, List.getElem_cons_succ, List.setIfInBounds_toArray, List.set_cons_zero, List.set_cons_succ]
    refine wpAnyH_take (i := 23) (v := ?_) rfl (by as_aux_lemma => kernel_rfl) (by as_aux_lemma => kernel_rfl) (by as_aux_lemma => kernel_rfl) (fun _ _ _ h => h) (Or.inl ⟨by as_aux_lemma => rfl, ?yt23⟩) (by assumption) ?qt23
    case yt23 => (intro wz hSw; (try dsimp only at hSw); go_simp <;> with_reducible rfl)
    try simp only [Act.put, List.getElem_toArray, List.getElem_cons_zero, List.getElem_cons_succ, List.setIfInBounds_toArray, List.set_cons_zero, List.set_cons_succ]
    refine wpAnyH_take (i := 25) (v := ?_) rfl (by as_aux_lemma => kernel_rfl) (by as_aux_lemma => kernel_rfl) (by as_aux_lemma => kernel_rfl) (fun _ _ _ h => h) (Or.inl ⟨by as_aux_lemma => rfl, ?yt25⟩) (by assumption) ?qt25
    case yt25 => (intro wz hSw; (try dsimp only at hSw); go_simp <;> with_reducible rfl)
    try simp only [Act.put, List.getElem_toArray, List.getElem_cons_zero, List.getElem_cons_succ, List.setIfInBounds_toArray, List.set_cons_zero, List.set_cons_succ]
    refine wpAnyH_ready (rs := [24]) (by as_aux_lemma => kernel_rfl) (by simp) ?_
    refine AllReadyH.cons rfl (fun K hK => ?_) AllReadyH.nil
    go_simp
    refine (k_touched id d kt (HX.out _ B7.out).2.1 HL.out HKT.out).mono ?_
    rintro e u8 ⟨x42, rfl, hx, hb⟩
    have F42 := Lib.hid hx
    have B8 := Lib.hid (Aft.trans B7.out hb)
    clear hb hx
    refine hK.out _ _ (HX.out _ B8.out).1 (fun hHeld8 => ?_)
    clear hK K
    try simp only [Act.put, List.getElem_toArray, List.getElem_cons_zero, List.getElem_cons_succ, List.setIfInBounds_toArray, List.set_cons_zero, List.set_cons_succ]
    refine wpAnyH_ready (rs := [26]) (by as_aux_lemma => kernel_rfl) (by simp) ?_
    refine AllReadyH.cons rfl (fun K hK => ?_) AllReadyH.nil
    go_simp
    refine (kr_keys id d true kt (HX.out _ B8.out).2.1 HL.out HKT.out).mono ?_
    rintro e u9 ⟨x44, rfl, hx, hb⟩
    have F44 := Lib.hid hx
    have B9 := Lib.hid (Aft.trans B8.out hb)
    have FP := Lib.hid (And.intro (F42.out.below hb) hx)
    clear hb hx F42 F44
    refine hK.out _ _ (HX.out _ B9.out).1 (fun hHeld9 => ?_)
    clear hK K
    try simp only [Act.put, List.getElem_toArray, List.getElem_cons_zero, List.getElem_cons_succ, List.setIfInBounds_toArray, List.set_cons_zero, List.set_cons_succ]
    refine wpAnyH_ready (rs := [27]) (by as_aux_lemma => kernel_rfl) (by simp) ?_
    refine AllReadyH.cons rfl (fun K hK => ?_) AllReadyH.nil
    go_simp
    refine (k_sameI FP.out.1 FP.out.2).mono ?_
    rintro e u10 ⟨rfl, hb⟩
    have B10 := Lib.hid (Aft.trans B9.out hb)
    clear hb
    clear FP
    refine hK.out _ _ (HX.out _ B10.out).1 (fun hHeld10 => ?_)
    clear hK K
    try simp only [Act.put, List.getElem_toArray, List.getElem_cons_zero, List.getElem_cons_succ, List.setIfInBounds_toArray, List.set_cons_zero, List.set_cons_succ]
    refine wpAnyH_take (i := 28) (v := ?_) rfl (by as_aux_lemma => kernel_rfl) (by as_aux_lemma => kernel_rfl) (by as_aux_lemma => kernel_rfl) (fun _ _ _ h => h) (Or.inl ⟨by as_aux_lemma => rfl, ?yt28⟩) (by assumption) ?qt28
    case yt28 => (intro wz hSw; (try dsimp only at hSw); go_simp <;> with_reducible rfl)
    try simp only [Act.put, List.getElem_toArray, List.getElem_cons_zero, List.getElem_cons_succ, List.setIfInBounds_toArray, List.set_cons_zero, List.set_cons_succ]
    refine wpAnyH_take (i := 29) (v := ?_) rfl (by as_aux_lemma => kernel_rfl) (by as_aux_lemma => kernel_rfl) (by as_aux_lemma => kernel_rfl) (fun _ _ _ h => h) (Or.inl ⟨by as_aux_lemma => rfl, ?yt29⟩) (by assumption) ?qt29
    case yt29 => (intro wz hSw; (try dsimp only at hSw); go_simp <;> with_reducible rfl)
    try simp only [Act.put, List.getElem_toArray, List.getElem_cons_zero, List.getElem_cons_succ, List.setIfInBounds_toArray, List.set_cons_zero, List.set_cons_succ]
    refine wpAnyH_take (i := 30) (v := ?_) rfl (by as_aux_lemma => kernel_rfl) (by as_aux_lemma => kernel_rfl) (by as_aux_lemma => kernel_rfl) (fun _ _ _ h => h) (Or.inl ⟨by as_aux_lemma => rfl, ?yt30⟩) (by assumption) ?qt30
    case yt30 => (intro wz hSw; (try dsimp only at hSw); go_simp <;> with_reducible rfl)
    try simp only [Act.put, List.getElem_toArray, List.getElem_cons_zero, List.getElem_cons_succ, List.setIfInBounds_toArray, List.set_cons_zero, List.set_cons_succ]
    refine wpAnyH_take (i := 32) (v := ?_) rfl (by as_aux_lemma => kernel_rfl) (by as_aux_lemma => kernel_rfl) (by as_aux_lemma => kernel_rfl) (fun _ _ _ h => h) (Or.inl ⟨by as_aux_lemma => rfl, ?yt32⟩) (by assumption) ?qt32
    case yt32 => (intro wz hSw; (try dsimp only at hSw); go_simp <;> with_reducible rfl)
    try simp only [Act.put, List.getElem_toArray, List.getElem_cons_zero, List.getElem_cons_succ, List.setIfInBounds_toArray, List.set_cons_zero, List.set_cons_succ]
    refine wpAnyH_ready (rs := [31]) (by as_aux_lemma => kernel_rfl) (by simp) ?_
    refine AllReadyH.cons rfl (fun K hK => ?_) AllReadyH.nil
    go_simp
    refine (k_needs id d vs (HX.out _ B10.out).2.1 HOK.out HL.out HV.out).mono ?_
    rintro e u11 ⟨x49, rfl, hx, hb⟩
    have F49 := Lib.hid hx
    have B11 := Lib.hid (Aft.trans B10.out hb)
    clear hb hx
    refine hK.out _ _ (HX.out _ B11.out).1 (fun hHeld11 => ?_)
    clear hK K
    try simp only [Act.put, List.getElem_toArray, List.getElem_cons_zero, List.getElem_cons_succ, List.setIfInBounds_toArray, List.set_cons_zero, List.set_cons_succ]
    refine wpAnyH_ready (rs := [33]) (by as_aux_lemma => kernel_rfl) (by simp) ?_
    refine AllReadyH.cons rfl (fun K hK => ?_) AllReadyH.nil
    go_simp
    refine (kr_needs id d vs (HX.out _ B11.out).2.1 HL.out HV.out).mono ?_
    rintro e u12 ⟨x51, rfl, hx, hb⟩
    have F51 := Lib.hid hx
    have B12 := Lib.hid (Aft.trans B11.out hb)
    have FP := Lib.hid (And.intro (F49.out.below hb) hx)
    clear hb hx F49 F51
    refine hK.out _ _ (HX.out _ B12.out).1 (fun hHeld12 => ?_)
    clear hK K
    try simp only [Act.put, List.getElem_toArray, List.getElem_cons_zero, List.getElem_cons_succ, List.setIfInBounds_toArray, List.set_cons_zero, List.set_cons_succ]
    refine wpAnyH_ready (rs := [34]) (by as_aux_lemma => kernel_rfl) (by simp) ?_
    refine AllReadyH.cons rfl (fun K hK => ?_) AllReadyH.nil
    go_simp
    refine (k_sameV FP.out.1 FP.out.2 HVL.out).mono ?_
    rintro e u13 ⟨rfl, hb⟩
    have B13 := Lib.hid (Aft.trans B12.out hb)
    clear hb
    clear FP
    refine hK.out _ _ (HX.out _ B13.out).1 (fun hHeld13 => ?_)
    clear hK K
    try simp only [Act.put, List.getElem_toArray, List.getElem_cons_zero, List.getElem_cons_succ, List.setIfInBounds_toArray, List.set_cons_zero, List.set_cons_succ]
    refine wpAnyH_take (i := 35) (v := ?_) rfl (by as_aux_lemma => kernel_rfl) (by as_aux_lemma => kernel_rfl) (by as_aux_lemma => kernel_rfl) (fun _ _ _ h => h) (Or.inl ⟨by as_aux_lemma => rfl, ?yt35⟩) (by assumption) ?qt35
    case yt35 => (intro wz hSw; (try dsimp only at hSw); go_simp <;> with_reducible rfl)
    try simp only [Act.put, List.getElem_toArray, List.getElem_cons_zero, List.getElem_cons_succ, List.setIfInBounds_toArray, List.set_cons_zero, List.set_cons_succ]
    refine wpAnyH_take (i := 36) (v := ?_) rfl (by as_aux_lemma => kernel_rfl) (by as_aux_lemma => kernel_rfl) (by as_aux_lemma => kernel_rfl) (fun _ _ _ h => h) (Or.inl ⟨by as_aux_lemma => rfl, ?yt36⟩) (by assumption) ?qt36
    case yt36 => (intro wz hSw; (try dsimp only at hSw); go_simp <;> with_reducible rfl)
    try simp only [Act.put, List.getElem_toArray, List.getElem_cons_zero, List.getElem_cons_succ, List.setIfInBounds_toArray, List.set_cons_zero, List.set_cons_succ]
    refine wpAnyH_take (i := 37) (v := ?_) rfl (by as_aux_lemma => kernel_rfl) (by as_aux_lemma => kernel_rfl) (by as_aux_lemma => kernel_rfl) (fun _ _ _ h => h) (Or.inl ⟨by as_aux_lemma => rfl, ?yt37⟩) (by assumption) ?qt37
    case yt37 => (intro wz hSw; (try dsimp only at hSw); go_simp <;> with_reducible rfl)
    try simp only [Act.put, List.getElem_toArray, List.getElem_cons_zero, List.getElem_cons_succ, List.setIfInBounds_toArray, List.set_cons_zero, List.set_cons_succ]
    refine wpAnyH_take (i := 39) (v := ?_) rfl (by as_aux_lemma => kernel_rfl) (by as_aux_lemma => kernel_rfl) (by as_aux_lemma => kernel_rfl) (fun _ _ _ h => h) (Or.inl ⟨by as_aux_lemma => rfl, ?yt39⟩) (by assumption) ?qt39
    case yt39 => (intro wz hSw; (try dsimp only at hSw); go_simp <;> with_reducible rfl)
    try simp only [Act.put, List.getElem_toArray, List.getElem_cons_zero, List.getElem_cons_succ, List.setIfInBounds_toArray, List.set_cons_zero, List.set_cons_succ]
    refine wpAnyH_ready (rs := [38]) (by as_aux_lemma => kernel_rfl) (by simp) ?_
    refine AllReadyH.cons rfl (fun K hK => ?_) AllReadyH.nil
    go_simp
    refine (k_weight id d q2 (HX.out _ B13.out).2.1 HL.out HQ2.out).mono ?_
    rintro e u14 ⟨rfl, hb⟩
    have B14 := Lib.hid (Aft.trans B13.out hb)
    clear hb
    refine hK.out _ _ (HX.out _ B14.out).1 (fun hHeld14 => ?_)
    clear hK K
    try simp only [Act.put, List.getElem_toArray, List.getElem_cons_zero, List.getElem_cons_succ, List.setIfInBounds_toArray, List.set_cons_zero, List.set_cons_succ]
    refine wpAnyH_ready (rs := [40]) (by as_aux_lemma => kernel_rfl) (by simp) ?_
    refine AllReadyH.cons rfl (fun K hK => ?_) AllReadyH.nil
    go_simp
    refine (kr_weight id d q2 (HX.out _ B14.out).2.1 HL.out HQ2.out).mono ?_
    rintro e u15 ⟨rfl, hb⟩
    have B15 := Lib.hid (Aft.trans B14.out hb)
    clear hb
    refine hK.out _ _ (HX.out _ B15.out).1 (fun hHeld15 => ?_)
    clear hK K
    try simp only [Act.put, List.getElem_toArray, List.getElem_cons_zero, List.getElem_cons_succ, List.setIfInBounds_toArray, List.set_cons_zero, List.set_cons_succ]
    refine wpAnyH_take (i := 41) (v := ?_) rfl (by as_aux_lemma => kernel_rfl) (by as_aux_lemma => kernel_rfl) (by as_aux_lemma => kernel_rfl) (fun _ _ _ h => h) (Or.inl ⟨by as_aux_lemma => rfl, ?yt41⟩) (by assumption) ?qt41
    case yt41 => (intro wz hSw; (try dsimp only at hSw); go_simp <;> with_reducible rfl)
    try simp only [Act.put, List.getElem_toArray, List.getElem_cons_zero, List.getElem_cons_succ, List.setIfInBounds_toArray, List.set_cons_zero, List.set_cons_succ]
    refine wpAnyH_take (i := 42) (v := ?_) rfl (by as_aux_lemma => kernel_rfl) (by as_aux_lemma => kernel_rfl) (by as_aux_lemma => kernel_rfl) (fun _ _ _ h => h) (Or.inl ⟨by as_aux_lemma => rfl, ?yt42⟩) (by assumption) ?qt42
    case yt42 => (intro wz hSw; (try dsimp only at hSw); go_simp <;> with_reducible rfl)
    try simp only [Act.put, List.getElem_toArray, List.getElem_cons_zero, List.getElem_cons_succ, List.setIfInBounds_toArray, List.set_cons_zero, List.set_cons_succ]
    refine wpAnyH_take (i := 43) (v := ?_) rfl (by as_aux_lemma => kernel_rfl) (by as_aux_lemma => kernel_rfl) (by as_aux_lemma => kernel_rfl) (fun _ _ _ h => h) (Or.inl ⟨by as_aux_lemma => rfl, ?yt43⟩) (by assumption) ?qt43
    case yt43 => (intro wz hSw; (try dsimp only at hSw); go_simp <;> with_reducible rfl)
    try simp only [Act.put, List.getElem_toArray, List.getElem_cons_zero, List.getElem_cons_succ, List.setIfInBounds_toArray, List.set_cons_zero, List.set_cons_succ]
    refine wpAnyH_take (i := 44) (v := ?_) rfl (by as_aux_lemma => kernel_rfl) (by as_aux_lemma => kernel_rfl) (by as_aux_lemma => kernel_rfl) (fun _ _ _ h => h) (Or.inl ⟨by as_aux_lemma => rfl, ?yt44⟩) (by assumption) ?qt44
    case yt44 => (intro wz hSw; (try dsimp only at hSw); go_simp <;> with_reducible rfl)
    try simp only [Act.put, List.getElem_toArray, List.getElem_cons_zero, List.getElem_cons_succ, List.setIfInBounds_toArray, List.set_cons_zero, List.set_cons_succ]
    refine wpAnyH_take (i := 46) (v := ?_) rfl (by as_aux_lemma => kernel_rfl) (by as_aux_lemma => kernel_rfl) (by as_aux_lemma => kernel_rfl) (fun _ _ _ h => h) (Or.inl ⟨by as_aux_lemma => rfl, ?yt46⟩) (by assumption) ?qt46
    case yt46 => (intro wz hSw; (try dsimp only at hSw); go_simp <;> with_reducible rfl)
    try simp only [Act.put, List.getElem_toArray, List.getElem_cons_zero, List.getElem_cons_succ, List.setIfInBounds_toArray, List.set_cons_zero, List.set_cons_succ]
    refine wpAnyH_ready (rs := [45]) (by as_aux_lemma => kernel_rfl) (by simp) ?_
    refine AllReadyH.cons rfl (fun K hK => ?_) AllReadyH.nil
    go_simp
    refine (k_text id d (HPW.out.below (HA0.out.trans B15.out)) (HX.out _ B15.out).2.1 HI.out HOK.out HL.out tx HTX.out).mono ?_
    rintro e u16 ⟨rfl, hb⟩
    have B16 := Lib.hid (Aft.trans B15.out hb)
    clear hb
    refine hK.out _ _ (HX.out _ B16.out).1 (fun hHeld16 => ?_)
    clear hK K
    try simp only [Act.put, List.getElem_toArray, List.getElem_cons_zero, List.getElem_cons_succ, List.setIfInBounds_toArray, List.set_cons_zero, List.set_cons_succ]
    refine wpAnyH_ready (rs := [47]) (by as_aux_lemma => kernel_rfl) (by simp) ?_
    refine AllReadyH.cons rfl (fun K hK => ?_) AllReadyH.nil
    go_simp
    refine (kr_text id d (HX.out _ B16.out).2.1 HI.out HOK.out HL.out tx HTX.out).mono ?_
    rintro e u17 ⟨rfl, hb⟩
    have B17 := Lib.hid (Aft.trans B16.out hb)
    clear hb
    refine hK.out _ _ (HX.out _ B17.out).1 (fun hHeld17 => ?_)
    clear hK K
    try simp only [Act.put, List.getElem_toArray, List.getElem_cons_zero, List.getElem_cons_succ, List.setIfInBounds_toArray, List.set_cons_zero, List.set_cons_succ]
    refine wpAnyH_take (i := 48) (v := ?_) rfl (by as_aux_lemma => kernel_rfl) (by as_aux_lemma => kernel_rfl) (by as_aux_lemma => kernel_rfl) (fun _ _ _ h => h) (Or.inl ⟨by as_aux_lemma => rfl, ?yt48⟩) (by assumption) ?qt48
    case yt48 => (intro wz hSw; (try dsimp only at hSw); go_simp <;> with_reducible rfl)
    try simp only [Act.put, List.getElem_toArray, List.getElem_cons_zero, List.getElem_cons_succ, List.setIfInBounds_toArray, List.set_cons_zero, List.set_cons_succ]
    refine wpAnyH_take (i := 49) (v := ?_) rfl (by as_aux_lemma => kernel_rfl) (by as_aux_lemma => kernel_rfl) (by as_aux_lemma => kernel_rfl) (fun _ _ _ h => h) (Or.inl ⟨by as_aux_lemma => rfl, ?yt49⟩) (by assumption) ?qt49
    case yt49 => (intro wz hSw; (try dsimp only at hSw); go_simp <;> with_reducible rfl)
    try simp only [Act.put, List.getElem_toArray, List.getElem_cons_zero, List.getElem_cons_succ, List.setIfInBounds_toArray, List.set_cons_zero, List.set_cons_succ]
    refine wpAnyH_take (i := 50) (v := ?_) rfl (by as_aux_lemma => kernel_rfl) (by as_aux_lemma => kernel_rfl) (by as_aux_lemma => kernel_rfl) (fun _ _ _ h => h) (Or.inl ⟨by as_aux_lemma => rfl, ?yt50⟩) (by assumption) ?qt50
    case yt50 => (intro wz hSw; (try dsimp only at hSw); go_simp <;> with_reducible rfl)
    try simp only [Act.put, List.getElem_toArray, List.getElem_cons_zero, List.getElem_cons_succ, List.setIfInBounds_toArray, List.set_cons_zero, List.set_cons_succ]
    refine wpAnyH_take (i := 51) (v := ?_) rfl (by as_aux_lemma => kernel_rfl) (by as_aux_lemma => kernel_rfl) (by as_aux_lemma => kernel_rfl) (fun _ _ _ h => h) (Or.inl ⟨by as_aux_lemma => rfl, ?yt51⟩) (by assumption) ?qt51
    case yt51 => (intro wz hSw; (try dsimp only at hSw); go_simp <;> with_reducible rfl)
    try simp only [Act.put, List.getElem_toArray, List.getElem_cons_zero, List.getElem_cons_succ, List.setIfInBounds_toArray, List.set_cons_zero, List.set_cons_succ]
    refine wpAnyH_take (i := 52) (v := ?_) rfl (by as_aux_lemma => kernel_rfl) (by as_aux_lemma => kernel_rfl) (by as_aux_lemma => kernel_rfl) (fun _ _ _ h => h) (Or.inl ⟨by as_aux_lemma => rfl, ?yt52⟩) (by assumption) ?qt52
    case yt52 => (intro wz hSw; (try dsimp only at hSw); go_simp <;> with_reducible rfl)
    try simp only [Act.put, List.getElem_toArray, List.getElem_cons_zero, List.getElem_cons_succ, List.setIfInBounds_toArray, List.set_cons_zero, List.set_cons_succ]
    refine wpAnyH_take (i := 54) (v := ?_) rfl (by as_aux_lemma => kernel_rfl) (by as_aux_lemma => kernel_rfl) (by as_aux_lemma => kernel_rfl) (fun _ _ _ h => h) (Or.inl ⟨by as_aux_lemma => rfl, ?yt54⟩) (by assumption) ?qt54
    case yt54 => (intro wz hSw; (try dsimp only at hSw); go_simp <;> with_reducible rfl)
    try simp only [Act.put, List.getElem_toArray, List.getElem_cons_zero, List.getElem_cons_succ, List.setIfInBounds_toArray, List.set_cons_zero, List.set_cons_succ]
    refine wpAnyH_take (i := 55) (v := ?_) rfl (by as_aux_lemma => kernel_rfl) (by as_aux_lemma => kernel_rfl) (by as_aux_lemma => kernel_rfl) (fun _ _ _ h => h) (Or.inl ⟨by as_aux_lemma => rfl, ?yt55⟩) (by assumption) ?qt55
    case yt55 => (intro wz hSw; (try dsimp only at hSw); go_simp <;> with_reducible rfl)
    try simp only [Act.put, List.getElem_toArray, List.getElem_cons_zero, List.getElem_cons_succ, List.setIfInBounds_toArray, List.set_cons_zero, List.set_cons_succ]
    refine wpAnyH_ready (rs := [53]) (by as_aux_lemma => kernel_rfl) (by simp) ?_
    refine AllReadyH.cons rfl (fun K hK => ?_) AllReadyH.nil
    go_simp
    refine (k_same id id2 d d2 r (HX.out _ B17.out).2.1 (HX.out _ B17.out).2.2 HSM.out).mono ?_
    rintro e u18 ⟨rfl, hb⟩
    have B18 := Lib.hid (Aft.trans B17.out hb)
    clear hb
    refine hK.out _ _ (HX.out _ B18.out).1 (fun hHeld18 => ?_)
    clear hK K
    try simp only [Act.put, List.getElem_toArray, List.getElem_cons_zero, List.getElem_cons_succ, List.setIfInBounds_toArray, List.set_cons_zero, List.set_cons_succ]
    refine wpAnyH_ready (rs := [56]) (by as_aux_lemma => kernel_rfl) (by simp) ?_
    refine AllReadyH.cons rfl (fun K hK => ?_) AllReadyH.nil
    go_simp
    refine (kr_same id id2 d d2 r (HX.out _ B18.out).2.1 (HX.out _ B18.out).2.2 HSM.out).mono ?_
    rintro e u19 ⟨rfl, hb⟩
    have B19 := Lib.hid (Aft.trans B18.out hb)
    clear hb
    refine hK.out _ _ (HX.out _ B19.out).1 (fun hHeld19 => ?_)
    clear hK K
    try simp only [Act.put, List.getElem_toArray, List.getElem_cons_zero, List.getElem_cons_succ, List.setIfInBounds_toArray, List.set_cons_zero, List.set_cons_succ]
    refine wpAnyH_take (i := 57) (v := ?_) rfl (by as_aux_lemma => kernel_rfl) (by as_aux_lemma => kernel_rfl) (by as_aux_lemma => kernel_rfl) (fun _ _ _ h => h) (Or.inl ⟨by as_aux_lemma => rfl, ?yt57⟩) (by assumption) ?qt57
    case yt57 => (intro wz hSw; (try dsimp only at hSw); go_simp <;> with_reducible rfl)
    try simp only [Act.put, List.getElem_toArray, List.getElem_cons_zero, List.getElem_cons_succ, List.setIfInBounds_toArray, List.set_cons_zero, List.set_cons_succ]
    refine wpAnyH_take (i := 58) (v := ?_) rfl (by as_aux_lemma => kernel_rfl) (by as_aux_lemma => kernel_rfl) (by as_aux_lemma => kernel_rfl) (fun _ _ _ h => h) (Or.inl ⟨by as_aux_lemma => rfl, ?yt58⟩) (by assumption) ?qt58
    case yt58 => (intro wz hSw; (try dsimp only at hSw); go_simp <;> with_reducible rfl)
    try simp only [Act.put, List.getElem_toArray, List.getElem_cons_zero, List.getElem_cons_succ, List.setIfInBounds_toArray, List.set_cons_zero, List.set_cons_succ]
    refine wpAnyH_take (i := 59) (v := ?_) rfl (by as_aux_lemma => kernel_rfl) (by as_aux_lemma => kernel_rfl) (by as_aux_lemma => kernel_rfl) (fun _ _ _ h => h) (Or.inl ⟨by as_aux_lemma => rfl, ?yt59⟩) (by assumption) ?qt59
    case yt59 => (intro wz hSw; (try dsimp only at hSw); go_simp <;> with_reducible rfl)
    try simp only [Act.put, List.getElem_toArray, List.getElem_cons_zero, List.getElem_cons_succ, List.setIfInBounds_toArray, List.set_cons_zero, List.set_cons_succ]
    refine wpAnyH_take (i := 60) (v := ?_) rfl (by as_aux_lemma => kernel_rfl) (by as_aux_lemma => kernel_rfl) (by as_aux_lemma => kernel_rfl) (fun _ _ _ h => h) (Or.inl ⟨by as_aux_lemma => rfl, ?yt60⟩) (by assumption) ?qt60
    case yt60 => (intro wz hSw; (try dsimp only at hSw); go_simp <;> with_reducible rfl)
    try simp only [Act.put, List.getElem_toArray, List.getElem_cons_zero, List.getElem_cons_succ, List.setIfInBounds_toArray, List.set_cons_zero, List.set_cons_succ]
    refine wpAnyH_take (i := 62) (v := ?_) rfl (by as_aux_lemma => kernel_rfl) (by as_aux_lemma => kernel_rfl) (by as_aux_lemma => kernel_rfl) (fun _ _ _ h => h) (Or.inl ⟨by as_aux_lemma => rfl, ?yt62⟩) (by assumption) ?qt62
    case yt62 => (intro wz hSw; (try dsimp only at hSw); go_simp <;> with_reducible rfl)
    try simp only [Act.put, List.getElem_toArray, List.getElem_cons_zero, List.getElem_cons_succ, List.setIfInBounds_toArray, List.set_cons_zero, List.set_cons_succ]
    refine wpAnyH_ready (rs := [61]) (by as_aux_lemma => kernel_rfl) (by simp) ?_
    refine AllReadyH.cons rfl (fun K hK => ?_) AllReadyH.nil
    go_simp
    refine (k_bare id d bl (HX.out _ B19.out).2.1 HL.out HBL.out m HM.out).mono ?_
    rintro e u20 ⟨p79, c79, rfl, hx, hb⟩
    have F79 := Lib.hid hx
    have B20 := Lib.hid (Aft.trans B19.out hb)
    clear hb hx
    refine hK.out _ _ (HX.out _ B20.out).1 (fun hHeld20 => ?_)
    clear hK K
    try simp only [Act.put, List.getElem_toArray, List.getElem_cons_zero, List.getElem_cons_succ, List.setIfInBounds_toArray, List.set_cons_zero, List.set_cons_succ]
    refine wpAnyH_ready (rs := [63]) (by as_aux_lemma => kernel_rfl) (by simp) ?_
    refine AllReadyH.cons rfl (fun K hK => ?_) AllReadyH.nil
    go_simp
    refine (kr_bare id d bl (HX.out _ B20.out).2.1 HL.out HBL.out m HM.out).mono ?_
    rintro e u21 ⟨p81, c81, rfl, hx, hb⟩
    have F81 := Lib.hid (And.intro (F79.out.below hb) hx)
    have B21 := Lib.hid (Aft.trans B20.out hb)
    clear hb hx
    refine hK.out _ _ (HX.out _ B21.out).1 (fun hHeld21 => ?_)
    clear hK K
    try simp only [Act.put, List.getElem_toArray, List.getElem_cons_zero, List.getElem_cons_succ, List.setIfInBounds_toArray, List.set_cons_zero, List.set_cons_succ]
    refine wpAnyH_ready (rs := [64]) (by as_aux_lemma => kernel_rfl) (by simp) ?_
    refine AllReadyH.cons rfl (fun K hK => ?_) AllReadyH.nil
    go_simp
    refine (kr_same id id d d true F81.out.1 F81.out.2 HSB.out).mono ?_
    rintro e u22 ⟨rfl, hb⟩
    have B22 := Lib.hid (Aft.trans B21.out hb)
    clear hb
    refine hK.out _ _ (HX.out _ B22.out).1 (fun hHeld22 => ?_)
    clear hK K
    try simp only [Act.put, List.getElem_toArray, List.getElem_cons_zero, List.getElem_cons_succ, List.setIfInBounds_toArray, List.set_cons_zero, List.set_cons_succ]
    refine wpAnyH_take (i := 65) (v := ?_) rfl (by as_aux_lemma => kernel_rfl) (by as_aux_lemma => kernel_rfl) (by as_aux_lemma => kernel_rfl) (fun _ _ _ h => h) (Or.inl ⟨by as_aux_lemma => rfl, ?yt65⟩) (by assumption) ?qt65
    case yt65 => (intro wz hSw; (try dsimp only at hSw); go_simp <;> with_reducible rfl)
    try simp only [Act.put, List.getElem_toArray, List.getElem_cons_zero, List.getElem_cons_succ, List.setIfInBounds_toArray, List.set_cons_zero, List.set_cons_succ]
    refine wpAnyH_take (i := 66) (v := ?_) rfl (by as_aux_lemma => kernel_rfl) (by as_aux_lemma => kernel_rfl) (by as_aux_lemma => kernel_rfl) (fun _ _ _ h => h) (Or.inl ⟨by as_aux_lemma => rfl, ?yt66⟩) (by assumption) ?qt66
    case yt66 => (intro wz hSw; (try dsimp only at hSw); go_simp <;> with_reducible rfl)
    try simp only [Act.put, List.getElem_toArray, List.getElem_cons_zero, List.getElem_cons_succ, List.setIfInBounds_toArray, List.set_cons_zero, List.set_cons_succ]
    refine wpAnyH_ready (rs := [67]) (by as_aux_lemma => kernel_rfl) (by simp) ?_
    refine AllReadyH.cons rfl (fun K hK => ?_) AllReadyH.nil
    go_simp
    refine (lives _ (HPW.out.below (HA0.out.trans B22.out))).mono ?_
    rintro e u23 ⟨rfl, hb⟩
    have B23 := Lib.hid (Aft.trans B22.out hb)
    clear hb
    refine hK.out _ _ (HX.out _ B23.out).1 (fun hHeld23 => ?_)
    clear hK K
    try simp only [Act.put, List.getElem_toArray, List.getElem_cons_zero, List.getElem_cons_succ, List.setIfInBounds_toArray, List.set_cons_zero, List.set_cons_succ]
    refine wpAnyH_take (i := 68) (v := ?_) rfl (by as_aux_lemma => kernel_rfl) (by as_aux_lemma => kernel_rfl) (by as_aux_lemma => kernel_rfl) (fun _ _ _ h => h) (Or.inl ⟨by as_aux_lemma => rfl, ?yt68⟩) (by assumption) ?qt68
    case yt68 => (intro wz hSw; (try dsimp only at hSw); go_simp <;> with_reducible rfl)
    try simp only [Act.put, List.getElem_toArray, List.getElem_cons_zero, List.getElem_cons_succ, List.setIfInBounds_toArray, List.set_cons_zero, List.set_cons_succ]
    refine wpAnyH_take (i := 69) (v := ?_) rfl (by as_aux_lemma => kernel_rfl) (by as_aux_lemma => kernel_rfl) (by as_aux_lemma => kernel_rfl) (fun _ _ _ h => h) (Or.inl ⟨by as_aux_lemma => rfl, ?yt69⟩) (by assumption) ?qt69
    case yt69 => (intro wz hSw; (try dsimp only at hSw); go_simp <;> with_reducible rfl)
    try simp only [Act.put, List.getElem_toArray, List.getElem_cons_zero, List.getElem_cons_succ, List.setIfInBounds_toArray, List.set_cons_zero, List.set_cons_succ]
    refine wpAnyH_done (by as_aux_lemma => kernel_rfl) ?_ _
    clear hHeld0 hHeld1 hHeld2 hHeld3 hHeld4 hHeld5 hHeld6 hHeld7 hHeld8 hHeld9 hHeld10 hHeld11 hHeld12 hHeld13 hHeld14 hHeld15 hHeld16 hHeld17 hHeld18 hHeld19 hHeld20 hHeld21 hHeld22 hHeld23
    go_wp2
    exact HE.out _ (HA0.out.trans B23.out)
end Go.Proofs.YtphagkpnfbdncaaDoor.Tx
