/-
  The law of TxnBare. Not a statement of the seat.
-/
import Derived.Test.YtphagkpnfbdncaaDoorTxA
namespace Go.Proofs.YtphagkpnfbdncaaDoor.Tx
open Go.ChangeShapes Go.WideShapes Go.ChangeAt Go.RowKit Base F Lst Nu
theorem bareL_idem (l : List Opr) : bareL (bareL l) = bareL l := by unfold bareL; rw [List.filter_filter]; simp
theorem bareL_wr {l : List Opr} {o : Opr} (h : o ∈ bareL l) : o.rd = false ∧ o ∈ l := by
  unfold bareL at h
  rw [List.mem_filter] at h
  exact ⟨by simpa using h.2, h.1⟩
theorem wrN_bare (l : List Opr) (key : Int) : wrN (bareL l) key = wrN l key := by
  unfold wrN bareL
  rw [List.countP_filter]
  congr 1
  funext o
  cases o.rd <;> simp
theorem needs_writes (id : Int) : ∀ (l : List Opr) (acc : List Ver), (∀ o ∈ l, o.rd = false) → l.foldl (needStep id) acc = acc
  | [], _, _ => rfl
  | o :: l, acc, h => by
    rw [List.foldl_cons]
    have : needStep id acc o = acc := by unfold needStep need; rw [h o List.mem_cons_self]; rfl
    rw [this]
    exact needs_writes id l acc fun x hx => h x (List.mem_cons_of_mem _ hx)
theorem needs_bare (id : Int) (l : List Opr) : needsL id (bareL l) = [] := needs_writes id _ [] fun _ h => (bareL_wr h).1
theorem rtGo_right (id : Int) : ∀ (l pre : List Opr), rtGo id pre l = 0 → ∀ o ∈ l, Op.rightO o = true
  | [], _, _, o, ho => by cases ho
  | x :: l, pre, h, o, ho => by
    unfold rtGo at h
    split at h
    · cases h
    · rename_i h1
      split at h
      · cases h
      · rcases List.mem_cons.1 ho with rfl | ho
        · simpa using h1
        · exact rtGo_right id l _ h o ho
theorem rtGo_writes (id : Int) : ∀ (l pre : List Opr), (∀ o ∈ l, o.rd = false ∧ Op.rightO o = true) → rtGo id pre l = 0
  | [], _, _ => rfl
  | x :: l, pre, h => by
    have hx := h x List.mem_cons_self
    unfold rtGo
    rw [if_neg (by rw [hx.2]; simp), if_neg (fun e => by rw [hx.1] at e; cases e.1)]
    exact rtGo_writes id l _ fun o ho => h o (List.mem_cons_of_mem _ ho)
theorem right_bare {id : Int} {l : List Opr} (h : rightT id l = 0) : rightT id (bareL l) = 0 := by
  unfold rightT at h ⊢
  split at h
  · cases h
  · rename_i h1
    split at h
    · cases h
    · rename_i h2
      rw [if_neg h1, if_neg (by have := bareL_len l; omega)]
      have h3 := rtGo_right id l [] h
      exact rtGo_writes id _ [] fun o ho => ⟨(bareL_wr ho).1, h3 o (bareL_wr ho).2⟩
theorem sameT_self (id : Int) (d : Bool) (l : List Opr) : sameT id id d d l l = true := by unfold sameT; rw [(Op.sameO_iff l l).2 rfl]; simp
set_option maxRecDepth 100000 in
set_option maxHeartbeats 16000000 in
theorem txbare_any {s : Value} {l : List Opr} (id key : Int) (d : Bool) (w : World) (hp : Pow w) (h : Oprs 0 w s l) (hok : ∀ x ∈ l, Opr.ok x) : Calls Tryd.prog 4 #[.agg #[.int .i64 id, .bool d, s], .int .i64 key] w (LivesP w) := by
  have HLV : Hid (∀ o, Calls Tryd.prog 5 #[] (w.alloc o) (LivesP (w.alloc o))) := Lib.hid fun o => lives (w.alloc o) (hp.below (Aft.one o))
  have HE : Hid (∀ W, Aft w W → LivesP w (.returned (.bool true)) W) := Lib.hid fun W hW => ⟨rfl, hW⟩
  have HO := Lib.hid h
  obtain ⟨p, c, rfl, _, _⟩ := h.open_
  clear h hp
  generalize LivesP w = Post at HE ⊢
  by_cases hl : 300 < l.length
  · have hl' : (300 : Int) < (l.length : Int) := by omega
    go_enter Tryd.func4, Tryd.ntmps4
    go_wp2_with (go_at_call 5; refine (HLV.out _).mono ?_; rintro e w1 ⟨rfl, h1⟩; obtain ⟨_, ⟨x0, x1, x2⟩, _⟩ := cellsT (id := id) (d := d) (s := .slice p l.length c) ((h1.block w.heap.size (by simp)).trans (heap_alloc_at _ _ _ rfl)); have H1 := Lib.hid ((Aft.one _).trans h1); clear h1)
    exact HE.out _ H1.out
  · have hl' : ¬ (300 : Int) < (l.length : Int) := by omega
    have HL : Hid (l.length ≤ 100000) := Lib.hid (by omega)
    have HBL : Hid ((bareL l).length ≤ 100000) := Lib.hid (by have := bareL_len l; omega)
    have HOK := Lib.hid hok
    have HOB : Hid (∀ x ∈ bareL l, Opr.ok x) := Lib.hid fun x hx => hok x (bareL_wr hx).2
    obtain ⟨ks, hks⟩ : ∃ ks, keysO (bareL l) = ks := ⟨_, rfl⟩
    have HKS := Lib.hid hks
    have HKB : Hid (keysO (bareL (bareL l)) = ks) := Lib.hid (by rw [bareL_idem]; exact hks)
    have HWR : Hid (((wrN (bareL l) key : Nat) : Int) = ((wrN l key : Nat) : Int)) := Lib.hid (by rw [wrN_bare])
    have HND := Lib.hid (needs_bare id l)
    have HBB := Lib.hid (bareL_idem l)
    have HSM := Lib.hid (sameT_self id d (bareL l))
    obtain ⟨m, hm⟩ : ∃ m, (bareL l).length = m := ⟨_, rfl⟩
    have HM := Lib.hid hm
    obtain ⟨q5, hq5⟩ : ∃ q : Int, ((bareL l).length : Int) + 1 = q := ⟨_, rfl⟩
    obtain ⟨q2, hq2⟩ : ∃ q : Int, (l.length : Int) + 1 = q := ⟨_, rfl⟩
    have HQ5 := Lib.hid hq5
    have HQ2 := Lib.hid hq2
    have hq : decide (q2 < q5) = false := by rw [decide_eq_false_iff_not]; have := bareL_len l; omega
    have HRB := Lib.hid (fun h => right_bare (id := id) (l := l) h)
    have HBR : Hid (∀ W, Aft w W → Calls Tryd.prog 23 #[.agg #[.int .i64 id, .bool d, .slice p l.length c]] W fun e w' => ∃ p5 c5, e = .returned (.agg #[.int .i64 id, .bool d, .slice p5 m c5]) ∧ Oprs 0 w' (.slice p5 m c5) (bareL l) ∧ Aft W w') := Lib.hid fun W hW => k_bare id d (bareL l) (HO.out.below hW) HL.out rfl m hm
    clear hks hm hq5 hq2 hok hl
    go_enter Tryd.func4, Tryd.ntmps4
    go_wp2_with (first
      | (go_at_call 5; refine (HLV.out _).mono ?_; rintro e w1 ⟨rfl, h1⟩; have HB1 : Hid (w1.heap[w.heap.size]? = some (boxT id d (.slice p l.length c))) := Lib.hid ((h1.block w.heap.size (by simp)).trans (heap_alloc_at _ _ _ rfl)); obtain ⟨_, ⟨x0, x1, x2⟩, _⟩ := cellsT HB1.out; have H1 := Lib.hid ((Aft.one _).trans h1); clear h1)
      | (go_at_call 23; refine (HBR.out _ H1.out).mono ?_; rintro e w2 ⟨p5, c5, rfl, h2, h3⟩; have HB2 := Lib.hid ((h3.block _ (heap_lt HB1.out)).trans HB1.out); have H2 := Lib.hid (H1.out.trans h3); have HO2 := Lib.hid h2; clear x0 x1 x2 h2 h3))
    obtain ⟨X0, hX0⟩ : ∃ X0, X0 = w2.alloc (.cells #[.int .i64 id, .bool d, .slice p5 m c5] 24) := ⟨_, rfl⟩
    have HA0 : Hid (Aft w X0) := Lib.hid (by rw [hX0]; exact H2.out.lay _)
    have HX : Hid (∀ X, Aft X0 X → ((X.cell? ⟨w.heap.size, 0, none⟩ = some (.int .i64 id) ∧ X.cell? ⟨w.heap.size, 1, none⟩ = some (.bool d) ∧ X.cell? ⟨w.heap.size, 2, none⟩ = some (.slice p l.length c)) ∧ (X.cell? ⟨w2.heap.size, 0, none⟩ = some (.int .i64 id) ∧ X.cell? ⟨w2.heap.size, 1, none⟩ = some (.bool d) ∧ X.cell? ⟨w2.heap.size, 2, none⟩ = some (.slice p5 m c5))) ∧ Oprs 0 X (.slice p l.length c) l ∧ Oprs 0 X (.slice p5 m c5) (bareL l)) := Lib.hid (by
      have e0 : X0.heap[w.heap.size]? = some (boxT id d (.slice p l.length c)) := by rw [hX0]; exact heap_alloc_lt _ _ _ _ HB2.out
      have e1 : X0.heap[w2.heap.size]? = some (boxT id d (.slice p5 m c5)) := by rw [hX0]; exact heap_alloc_at _ _ _ rfl
      have o1 : Oprs 0 X0 (.slice p5 m c5) (bareL l) := by rw [hX0]; exact HO2.out.below (Aft.one _)
      clear hX0
      intro X hX
      exact ⟨⟨(cellsT ((hX.block _ (heap_lt e0)).trans e0)).2.1, (cellsT ((hX.block _ (heap_lt e1)).trans e1)).2.1⟩, HO.out.below (HA0.out.trans hX), o1.below hX⟩)
    have B0 : Hid (Aft X0 X0.drew) := Lib.hid (Below.drew (Aft.refl X0))
    rw [← hX0]
    clear hX0
    try simp only [List.append_eq, List.cons_append, List.nil_append]
    refine wp_region_held_drew (S := (fun X => (X.cell? ⟨w.heap.size, 0, none⟩ = some (.int .i64 id) ∧ X.cell? ⟨w.heap.size, 1, none⟩ = some (.bool d) ∧ X.cell? ⟨w.heap.size, 2, none⟩ = some (.slice p l.length c)) ∧ (X.cell? ⟨w2.heap.size, 0, none⟩ = some (.int .i64 id) ∧ X.cell? ⟨w2.heap.size, 1, none⟩ = some (.bool d) ∧ X.cell? ⟨w2.heap.size, 2, none⟩ = some (.slice p5 m c5)))) (by kernel_rfl) (HX.out _ B0.out).1 (fun hHeld0 => ?_)
    refine wpAnyH_take (i := 0) (v := ?_) rfl (by as_aux_lemma => kernel_rfl) (by as_aux_lemma => kernel_rfl) (by as_aux_lemma => kernel_rfl) (fun _ _ _ h => h) (Or.inl ⟨by as_aux_lemma => rfl, ?yt0⟩) (by assumption) ?qt0
    case yt0 => (intro wz hSw; (try dsimp only at hSw); go_simp <;> with_reducible rfl)
    try simp only [Act.put, List.getElem_toArray, List.getElem_cons_zero, List.setIfInBounds_toArray, List.set_cons_zero, List.set_cons_succ]
    refine wpAnyH_take (i := 1) (v := ?_) rfl (by as_aux_lemma => kernel_rfl) (by as_aux_lemma => kernel_rfl) (by as_aux_lemma => kernel_rfl) (fun _ _ _ h => h) (Or.inl ⟨by as_aux_lemma => rfl, ?yt1⟩) (by assumption) ?qt1
    case yt1 => (intro wz hSw; (try dsimp only at hSw); go_simp <;> with_reducible rfl)
    try simp only [Act.put, List.getElem_toArray, List.getElem_cons_zero, List.getElem_cons_succ, List.setIfInBounds_toArray, List.set_cons_zero, List.set_cons_succ]
    refine wpAnyH_take (i := 2) (v := ?_) rfl (by as_aux_lemma => kernel_rfl) (by as_aux_lemma => kernel_rfl) (by as_aux_lemma => kernel_rfl) (fun _ _ _ h => h) (Or.inl ⟨by as_aux_lemma => rfl, ?yt2⟩) (by assumption) ?qt2
    case yt2 => (intro wz hSw; (try dsimp only at hSw); go_simp <;> with_reducible rfl)
    try simp only [Act.put, List.getElem_toArray, List.getElem_cons_zero, List.getElem_cons_succ, List.setIfInBounds_toArray, List.set_cons_zero, List.set_cons_succ]
    refine wpAnyH_take (i := 3) (v := ?_) rfl (by as_aux_lemma => kernel_rfl) (by as_aux_lemma => kernel_rfl) (by as_aux_lemma => kernel_rfl) (fun _ _ _ h => h) (Or.inl ⟨by as_aux_lemma => rfl, ?yt3⟩) (by assumption) ?qt3
    case yt3 => (intro wz hSw; (try dsimp only at hSw); go_simp <;> with_reducible rfl)
    try simp only [Act.put, List.getElem_toArray, List.getElem_cons_zero, List.getElem_cons_succ, List.setIfInBounds_toArray, List.set_cons_zero, List.set_cons_succ]
    refine wpAnyH_take (i := 4) (v := ?_) rfl (by as_aux_lemma => kernel_rfl) (by as_aux_lemma => kernel_rfl) (by as_aux_lemma => kernel_rfl) (fun _ _ _ h => h) (Or.inl ⟨by as_aux_lemma => rfl, ?yt4⟩) (by assumption) ?qt4
    case yt4 => (intro wz hSw; (try dsimp only at hSw); go_simp <;> with_reducible rfl)
    try simp only [Act.put, List.getElem_toArray, List.getElem_cons_zero, List.getElem_cons_succ, List.setIfInBounds_toArray, List.set_cons_zero, List.set_cons_succ]
    refine wpAnyH_take (i := 5) (v := ?_) rfl (by as_aux_lemma => kernel_rfl) (by as_aux_lemma => kernel_rfl) (by as_aux_lemma => kernel_rfl) (fun _ _ _ h => h) (Or.inl ⟨by as_aux_lemma => rfl, ?yt5⟩) (by assumption) ?qt5
    case yt5 => (intro wz hSw; (try dsimp only at hSw); go_simp <;> with_reducible rfl)
    try simp only [Act.put, List.getElem_toArray, List.getElem_cons_zero, List.getElem_cons_succ, List.setIfInBounds_toArray, List.set_cons_zero, List.set_cons_succ]
    refine wpAnyH_take (i := 6) (v := ?_) rfl (by as_aux_lemma => kernel_rfl) (by as_aux_lemma => kernel_rfl) (by as_aux_lemma => kernel_rfl) (fun _ _ _ h => h) (Or.inl ⟨by as_aux_lemma => rfl, ?yt6⟩) (by assumption) ?qt6
    case yt6 => (intro wz hSw; (try dsimp only at hSw); go_simp <;> with_reducible rfl)
    try simp only [Act.put, List.getElem_toArray, List.getElem_cons_zero, List.getElem_cons_succ, List.setIfInBounds_toArray, List.set_cons_zero, List.set_cons_succ]
    refine wpAnyH_take (i := 7) (v := ?_) rfl (by as_aux_lemma => kernel_rfl) (by as_aux_lemma => kernel_rfl) (by as_aux_lemma => kernel_rfl) (fun _ _ _ h => h) (Or.inl ⟨by as_aux_lemma => rfl, ?yt7⟩) (by assumption) ?qt7
    case yt7 => (intro wz hSw; (try dsimp only at hSw); go_simp <;> with_reducible rfl)
    try simp only [Act.put, List.getElem_toArray, List.getElem_cons_zero, List.getElem_cons_succ, List.setIfInBounds_toArray, List.set_cons_zero, List.set_cons_succ]
    refine wpAnyH_take (i := 8) (v := ?_) rfl (by as_aux_lemma => kernel_rfl) (by as_aux_lemma => kernel_rfl) (by as_aux_lemma => kernel_rfl) (fun _ _ _ h => h) (Or.inl ⟨by as_aux_lemma => rfl, ?yt8⟩) (by assumption) ?qt8
    case yt8 => (intro wz hSw; (try dsimp only at hSw); go_simp <;> with_reducible rfl)
    try simp only [Act.put, List.getElem_toArray, List.getElem_cons_zero, List.getElem_cons_succ, List.setIfInBounds_toArray, List.set_cons_zero, List.set_cons_succ]
    refine wpAnyH_take (i := 9) (v := ?_) rfl (by as_aux_lemma => kernel_rfl) (by as_aux_lemma => kernel_rfl) (by as_aux_lemma => kernel_rfl) (fun _ _ _ h => h) (Or.inl ⟨by as_aux_lemma => rfl, ?yt9⟩) (by assumption) ?qt9
    case yt9 => (intro wz hSw; (try dsimp only at hSw); go_simp <;> with_reducible rfl)
    try simp only [Act.put, List.getElem_toArray, List.getElem_cons_zero, List.getElem_cons_succ, List.setIfInBounds_toArray, List.set_cons_zero, List.set_cons_succ]
    refine wpAnyH_take (i := 10) (v := ?_) rfl (by as_aux_lemma => kernel_rfl) (by as_aux_lemma => kernel_rfl) (by as_aux_lemma => kernel_rfl) (fun _ _ _ h => h) (Or.inl ⟨by as_aux_lemma => rfl, ?yt10⟩) (by assumption) ?qt10
    case yt10 => (intro wz hSw; (try dsimp only at hSw); go_simp <;> with_reducible rfl)
    try simp only [Act.put, List.getElem_toArray, List.getElem_cons_zero, List.getElem_cons_succ, List.setIfInBounds_toArray, List.set_cons_zero, List.set_cons_succ]
    refine wpAnyH_take (i := 11) (v := ?_) rfl (by as_aux_lemma => kernel_rfl) (by as_aux_lemma => kernel_rfl) (by as_aux_lemma => kernel_rfl) (fun _ _ _ h => h) (Or.inl ⟨by as_aux_lemma => rfl, ?yt11⟩) (by assumption) ?qt11
    case yt11 => (intro wz hSw; (try dsimp only at hSw); go_simp <;> with_reducible rfl)
    try simp only [Act.put, List.getElem_toArray, List.getElem_cons_zero, List.getElem_cons_succ, List.setIfInBounds_toArray, List.set_cons_zero, List.set_cons_succ]
    refine wpAnyH_take (i := 12) (v := ?_) rfl (by as_aux_lemma => kernel_rfl) (by as_aux_lemma => kernel_rfl) (by as_aux_lemma => kernel_rfl) (fun _ _ _ h => h) (Or.inl ⟨by as_aux_lemma => rfl, ?yt12⟩) (by assumption) ?qt12
    case yt12 => (intro wz hSw; (try dsimp only at hSw); go_simp <;> with_reducible rfl)
    try simp only [Act.put, List.getElem_toArray, List.getElem_cons_zero, List.getElem_cons_succ, List.setIfInBounds_toArray, List.set_cons_zero, List.set_cons_succ]
    refine wpAnyH_take (i := 13) (v := ?_) rfl (by as_aux_lemma => kernel_rfl) (by as_aux_lemma => kernel_rfl) (by as_aux_lemma => kernel_rfl) (fun _ _ _ h => h) (Or.inl ⟨by as_aux_lemma => rfl, ?yt13⟩) (by assumption) ?qt13
    case yt13 => (intro wz hSw; (try dsimp only at hSw); go_simp <;> with_reducible rfl)
    try simp only [Act.put, List.getElem_toArray, List.getElem_cons_zero, List.getElem_cons_succ, List.setIfInBounds_toArray, List.set_cons_zero, List.set_cons_succ]
    refine wpAnyH_take (i := 14) (v := ?_) rfl (by as_aux_lemma => kernel_rfl) (by as_aux_lemma => kernel_rfl) (by as_aux_lemma => kernel_rfl) (fun _ _ _ h => h) (Or.inl ⟨by as_aux_lemma => rfl, ?yt14⟩) (by assumption) ?qt14
    case yt14 => (intro wz hSw; (try dsimp only at hSw); go_simp <;> with_reducible rfl)
    try simp only [Act.put, List.getElem_toArray, List.getElem_cons_zero, List.getElem_cons_succ, List.setIfInBounds_toArray, List.set_cons_zero, List.set_cons_succ]
    refine wpAnyH_take (i := 16) (v := ?_) rfl (by as_aux_lemma => kernel_rfl) (by as_aux_lemma => kernel_rfl) (by as_aux_lemma => kernel_rfl) (fun _ _ _ h => h) (Or.inl ⟨by as_aux_lemma => rfl, ?yt16⟩) (by assumption) ?qt16
    case yt16 => (intro wz hSw; (try dsimp only at hSw); go_simp <;> with_reducible rfl)
    try simp only [Act.put, List.getElem_toArray, List.getElem_cons_zero, List.getElem_cons_succ, List.setIfInBounds_toArray, List.set_cons_zero, List.set_cons_succ]
    refine wpAnyH_take (i := 17) (v := ?_) rfl (by as_aux_lemma => kernel_rfl) (by as_aux_lemma => kernel_rfl) (by as_aux_lemma => kernel_rfl) (fun _ _ _ h => h) (Or.inl ⟨by as_aux_lemma => rfl, ?yt17⟩) (by assumption) ?qt17
    case yt17 => (intro wz hSw; (try dsimp only at hSw); go_simp <;> with_reducible rfl)
    try simp only [Act.put, List.getElem_toArray, List.getElem_cons_zero, List.getElem_cons_succ, List.setIfInBounds_toArray, List.set_cons_zero, List.set_cons_succ]
    refine wpAnyH_ready (rs := [15]) (by as_aux_lemma => kernel_rfl) (by simp) ?_
    refine AllReadyH.cons rfl (fun K hK => ?_) AllReadyH.nil
    go_simp
    refine (k_writes id key d _ (HX.out _ B0.out).2.2 HBL.out HWR.out).mono ?_
    rintro e u1 ⟨rfl, hb⟩
    have B1 := Lib.hid (Aft.trans B0.out hb)
    clear hb
    refine hK.out _ _ (HX.out _ B1.out).1 (fun hHeld1 => ?_)
    clear hK K
    try simp only [Act.put, List.getElem_toArray, List.getElem_cons_zero, List.getElem_cons_succ, List.setIfInBounds_toArray, List.set_cons_zero, List.set_cons_succ]
    refine wpAnyH_ready (rs := [18]) (by as_aux_lemma => kernel_rfl) (by simp) ?_
    refine AllReadyH.cons rfl (fun K hK => ?_) AllReadyH.nil
    go_simp
    refine (k_writes id key d _ (HX.out _ B1.out).2.1 HL.out rfl).mono ?_
    rintro e u2 ⟨rfl, hb⟩
    have B2 := Lib.hid (Aft.trans B1.out hb)
    clear hb
    refine hK.out _ _ (HX.out _ B2.out).1 (fun hHeld2 => ?_)
    clear hK K
    try simp only [Act.put, List.getElem_toArray, List.getElem_cons_zero, List.getElem_cons_succ, List.setIfInBounds_toArray, List.set_cons_zero, List.set_cons_succ]
    refine wpAnyH_take (i := 19) (v := ?_) rfl (by as_aux_lemma => kernel_rfl) (by as_aux_lemma => kernel_rfl) (by as_aux_lemma => kernel_rfl) (fun _ _ _ h => h) (Or.inl ⟨by as_aux_lemma => rfl, ?yt19⟩) (by assumption) ?qt19
    case yt19 => (intro wz hSw; (try dsimp only at hSw); go_simp <;> with_reducible rfl)
    try simp only [Act.put, List.getElem_toArray, List.getElem_cons_zero, List.getElem_cons_succ, List.setIfInBounds_toArray, List.set_cons_zero, List.set_cons_succ]
    refine wpAnyH_take (i := 20) (v := ?_) rfl (by as_aux_lemma => kernel_rfl) (by as_aux_lemma => kernel_rfl) (by as_aux_lemma => kernel_rfl) (fun _ _ _ h => h) (Or.inl ⟨by as_aux_lemma => rfl, ?yt20⟩) (by assumption) ?qt20
    case yt20 => (intro wz hSw; (try dsimp only at hSw); go_simp <;> with_reducible rfl)
    try simp only [Act.put, List.getElem_toArray, List.getElem_cons_zero, List.getElem_cons_succ, List.setIfInBounds_toArray, List.set_cons_zero, List.set_cons_succ]
    refine wpAnyH_take (i := 21) (v := ?_) rfl (by as_aux_lemma => kernel_rfl) (by as_aux_lemma => kernel_rfl) (by as_aux_lemma => kernel_rfl) (fun _ _ _ h => h) (Or.inl ⟨by as_aux_lemma => rfl, ?yt21⟩) (by assumption) ?qt21
    case yt21 => (intro wz hSw; (try dsimp only at hSw); go_simp <;> with_reducible rfl)
    try simp only [Act.put, List.getElem_toArray, List.getElem_cons_zero, List.getElem_cons_succ, List.setIfInBounds_toArray, List.set_cons_zero, List.set_cons_succ]
    refine wpAnyH_take (i := 22) (v := ?_) rfl (by as_aux_lemma => kernel_rfl) (by as_aux_lemma => kernel_rfl) (by as_aux_lemma => kernel_rfl) (fun _ _ _ h => h) (Or.inl ⟨by as_aux_lemma => rfl, ?yt22⟩) (by assumption) ?qt22
    case yt22 => (intro wz hSw; (try dsimp only at hSw); go_simp <;> with_reducible rfl)
    try simp only [Act.put, List.getElem_toArray, List.getElem_cons_zero, List.getElem_cons_succ, List.setIfInBounds_toArray, List.set_cons_zero, List.set_cons_succ]
    refine wpAnyH_take (i := 24) (v := ?_) rfl (by as_aux_lemma => kernel_rfl) (by as_aux_lemma => kernel_rfl) (by as_aux_lemma => kernel_rfl) (fun _ _ _ h => h) (Or.inl ⟨by as_aux_lemma => rfl, ?yt24⟩) (by assumption) ?qt24
    case yt24 => (intro wz hSw; (try dsimp only at hSw); go_simp <;> with_reducible rfl)
    try simp only [Act.put, List.getElem_toArray, List.getElem_cons_zero, List.getElem_cons_succ, List.setIfInBounds_toArray, List.set_cons_zero, List.set_cons_succ]
    refine wpAnyH_ready (rs := [23]) (by as_aux_lemma => kernel_rfl) (by simp) ?_
    refine AllReadyH.cons rfl (fun K hK => ?_) AllReadyH.nil
    go_simp
    refine (k_keys id d ks (HX.out _ B2.out).2.2 HBL.out HKB.out).mono ?_
    rintro e u3 ⟨x37, rfl, hx, hb⟩
    have F37 := Lib.hid hx
    have B3 := Lib.hid (Aft.trans B2.out hb)
    clear hb hx
    refine hK.out _ _ (HX.out _ B3.out).1 (fun hHeld3 => ?_)
    clear hK K
    try simp only [Act.put, List.getElem_toArray, List.getElem_cons_zero, List.getElem_cons_succ, List.setIfInBounds_toArray, List.set_cons_zero, List.set_cons_succ]
    refine wpAnyH_ready (rs := [25]) (by as_aux_lemma => kernel_rfl) (by simp) ?_
    refine AllReadyH.cons rfl (fun K hK => ?_) AllReadyH.nil
    go_simp
    refine (k_keys id d ks (HX.out _ B3.out).2.1 HL.out HKS.out).mono ?_
    rintro e u4 ⟨x39, rfl, hx, hb⟩
    have F39 := Lib.hid hx
    have B4 := Lib.hid (Aft.trans B3.out hb)
    have FP := Lib.hid (And.intro (F37.out.below hb) hx)
    clear hb hx F37 F39
    refine hK.out _ _ (HX.out _ B4.out).1 (fun hHeld4 => ?_)
    clear hK K
    try simp only [Act.put, List.getElem_toArray, List.getElem_cons_zero, List.getElem_cons_succ, List.setIfInBounds_toArray, List.set_cons_zero, List.set_cons_succ]
    refine wpAnyH_ready (rs := [26]) (by as_aux_lemma => kernel_rfl) (by simp) ?_
    refine AllReadyH.cons rfl (fun K hK => ?_) AllReadyH.nil
    go_simp
    refine (k_sameI FP.out.1 FP.out.2).mono ?_
    rintro e u5 ⟨rfl, hb⟩
    have B5 := Lib.hid (Aft.trans B4.out hb)
    clear hb
    clear FP
    refine hK.out _ _ (HX.out _ B5.out).1 (fun hHeld5 => ?_)
    clear hK K
    try simp only [Act.put, List.getElem_toArray, List.getElem_cons_zero, List.getElem_cons_succ, List.setIfInBounds_toArray, List.set_cons_zero, List.set_cons_succ]
    refine wpAnyH_take (i := 27) (v := ?_) rfl (by as_aux_lemma => kernel_rfl) (by as_aux_lemma => kernel_rfl) (by as_aux_lemma => kernel_rfl) (fun _ _ _ h => h) (Or.inl ⟨by as_aux_lemma => rfl, ?yt27⟩) (by assumption) ?qt27
    case yt27 => (intro wz hSw; (try dsimp only at hSw); go_simp <;> with_reducible rfl)
    try simp only [Act.put, List.getElem_toArray, List.getElem_cons_zero, List.getElem_cons_succ, List.setIfInBounds_toArray, List.set_cons_zero, List.set_cons_succ]
    refine wpAnyH_take (i := 28) (v := ?_) rfl (by as_aux_lemma => kernel_rfl) (by as_aux_lemma => kernel_rfl) (by as_aux_lemma => kernel_rfl) (fun _ _ _ h => h) (Or.inl ⟨by as_aux_lemma => rfl, ?yt28⟩) (by assumption) ?qt28
    case yt28 => (intro wz hSw; (try dsimp only at hSw); go_simp <;> with_reducible rfl)
    try simp only [Act.put, List.getElem_toArray, List.getElem_cons_zero, List.getElem_cons_succ, List.setIfInBounds_toArray, List.set_cons_zero, List.set_cons_succ]
    refine wpAnyH_take (i := 29) (v := ?_) rfl (by as_aux_lemma => kernel_rfl) (by as_aux_lemma => kernel_rfl) (by as_aux_lemma => kernel_rfl) (fun _ _ _ h => h) (Or.inl ⟨by as_aux_lemma => rfl, ?yt29⟩) (by assumption) ?qt29
    case yt29 => (intro wz hSw; (try dsimp only at hSw); go_simp <;> with_reducible rfl)
    try simp only [Act.put, List.getElem_toArray, List.getElem_cons_zero, List.getElem_cons_succ, List.setIfInBounds_toArray, List.set_cons_zero, List.set_cons_succ]
    refine wpAnyH_take (i := 30) (v := ?_) rfl (by as_aux_lemma => kernel_rfl) (by as_aux_lemma => kernel_rfl) (by as_aux_lemma => kernel_rfl) (fun _ _ _ h => h) (Or.inl ⟨by as_aux_lemma => rfl, ?yt30⟩) (by assumption) ?qt30
    case yt30 => (intro wz hSw; (try dsimp only at hSw); go_simp <;> with_reducible rfl)
    try simp only [Act.put, List.getElem_toArray, List.getElem_cons_zero, List.getElem_cons_succ, List.setIfInBounds_toArray, List.set_cons_zero, List.set_cons_succ]
    refine wpAnyH_take (i := 32) (v := ?_) rfl (by as_aux_lemma => kernel_rfl) (by as_aux_lemma => kernel_rfl) (by as_aux_lemma => kernel_rfl) (fun _ _ _ h => h) (Or.inl ⟨by as_aux_lemma => rfl, ?yt32⟩) (by assumption) ?qt32
    case yt32 => (intro wz hSw; (try dsimp only at hSw); go_simp <;> with_reducible rfl)
    try simp only [Act.put, List.getElem_toArray, List.getElem_cons_zero, List.getElem_cons_succ, List.setIfInBounds_toArray, List.set_cons_zero, List.set_cons_succ]
    refine wpAnyH_ready (rs := [31]) (by as_aux_lemma => kernel_rfl) (by simp) ?_
    refine AllReadyH.cons rfl (fun K hK => ?_) AllReadyH.nil
    go_simp
    refine (k_touched id d ks (HX.out _ B5.out).2.2 HBL.out HKS.out).mono ?_
    rintro e u6 ⟨x45, rfl, hx, hb⟩
    have F45 := Lib.hid hx
    have B6 := Lib.hid (Aft.trans B5.out hb)
    clear hb hx
    refine hK.out _ _ (HX.out _ B6.out).1 (fun hHeld6 => ?_)
    clear hK K
    try simp only [Act.put, List.getElem_toArray, List.getElem_cons_zero, List.getElem_cons_succ, List.setIfInBounds_toArray, List.set_cons_zero, List.set_cons_succ]
    refine wpAnyH_ready (rs := [33]) (by as_aux_lemma => kernel_rfl) (by simp) ?_
    refine AllReadyH.cons rfl (fun K hK => ?_) AllReadyH.nil
    go_simp
    refine (k_keys id d ks (HX.out _ B6.out).2.1 HL.out HKS.out).mono ?_
    rintro e u7 ⟨x47, rfl, hx, hb⟩
    have F47 := Lib.hid hx
    have B7 := Lib.hid (Aft.trans B6.out hb)
    have FP := Lib.hid (And.intro (F45.out.below hb) hx)
    clear hb hx F45 F47
    refine hK.out _ _ (HX.out _ B7.out).1 (fun hHeld7 => ?_)
    clear hK K
    try simp only [Act.put, List.getElem_toArray, List.getElem_cons_zero, List.getElem_cons_succ, List.setIfInBounds_toArray, List.set_cons_zero, List.set_cons_succ]
    refine wpAnyH_ready (rs := [34]) (by as_aux_lemma => kernel_rfl) (by simp) ?_
    refine AllReadyH.cons rfl (fun K hK => ?_) AllReadyH.nil
    go_simp
    refine (k_sameI FP.out.1 FP.out.2).mono ?_
    rintro e u8 ⟨rfl, hb⟩
    have B8 := Lib.hid (Aft.trans B7.out hb)
    clear hb
    clear FP
    refine hK.out _ _ (HX.out _ B8.out).1 (fun hHeld8 => ?_)
    clear hK K
    try simp only [Act.put, List.getElem_toArray, List.getElem_cons_zero, List.getElem_cons_succ, List.setIfInBounds_toArray, List.set_cons_zero, List.set_cons_succ]
    refine wpAnyH_take (i := 35) (v := ?_) rfl (by as_aux_lemma => kernel_rfl) (by as_aux_lemma => kernel_rfl) (by as_aux_lemma => kernel_rfl) (fun _ _ _ h => h) (Or.inl ⟨by as_aux_lemma => rfl, ?yt35⟩) (by assumption) ?qt35
    case yt35 => (intro wz hSw; (try dsimp only at hSw); go_simp <;> with_reducible rfl)
    try simp only [Act.put, List.getElem_toArray, List.getElem_cons_zero, List.getElem_cons_succ, List.setIfInBounds_toArray, List.set_cons_zero, List.set_cons_succ]
    refine wpAnyH_take (i := 36) (v := ?_) rfl (by as_aux_lemma => kernel_rfl) (by as_aux_lemma => kernel_rfl) (by as_aux_lemma => kernel_rfl) (fun _ _ _ h => h) (Or.inl ⟨by as_aux_lemma => rfl, ?yt36⟩) (by assumption) ?qt36
    case yt36 => (intro wz hSw; (try dsimp only at hSw); go_simp <;> with_reducible rfl)
    try simp only [Act.put, List.getElem_toArray, List.getElem_cons_zero, List.getElem_cons_succ, List.setIfInBounds_toArray, List.set_cons_zero, List.set_cons_succ]
    refine wpAnyH_take (i := 37) (v := ?_) rfl (by as_aux_lemma => kernel_rfl) (by as_aux_lemma => kernel_rfl) (by as_aux_lemma => kernel_rfl) (fun _ _ _ h => h) (Or.inl ⟨by as_aux_lemma => rfl, ?yt37⟩) (by assumption) ?qt37
    case yt37 => (intro wz hSw; (try dsimp only at hSw); go_simp <;> with_reducible rfl)
    try simp only [Act.put, List.getElem_toArray, List.getElem_cons_zero, List.getElem_cons_succ, List.setIfInBounds_toArray, List.set_cons_zero, List.set_cons_succ]
    refine wpAnyH_take (i := 38) (v := ?_) rfl (by as_aux_lemma => kernel_rfl) (by as_aux_lemma => kernel_rfl) (by as_aux_lemma => kernel_rfl) (fun _ _ _ h => h) (Or.inl ⟨by as_aux_lemma => rfl, ?yt38⟩) (by assumption) ?qt38
    case yt38 => (intro wz hSw; (try dsimp only at hSw); go_simp <;> with_reducible rfl)
    try simp only [Act.put, List.getElem_toArray, List.getElem_cons_zero, List.getElem_cons_succ, List.setIfInBounds_toArray, List.set_cons_zero, List.set_cons_succ]
    refine wpAnyH_ready (rs := [39]) (by as_aux_lemma => kernel_rfl) (by simp) ?_
    refine AllReadyH.cons rfl (fun K hK => ?_) AllReadyH.nil
    go_simp
    refine (k_needs id d [] (HX.out _ B8.out).2.2 HOB.out HBL.out HND.out).mono ?_
    rintro e u9 ⟨x53, rfl, hx, hb⟩
    obtain ⟨p53, c53, rfl, _, _⟩ := hx.open_
    have B9 := Lib.hid (Aft.trans B8.out hb)
    clear hb hx
    refine hK.out _ _ (HX.out _ B9.out).1 (fun hHeld9 => ?_)
    clear hK K
    try simp only [Act.put, List.getElem_toArray, List.getElem_cons_zero, List.getElem_cons_succ, List.setIfInBounds_toArray, List.set_cons_zero, List.set_cons_succ]
    refine wpAnyH_take (i := 40) (v := ?_) rfl (by as_aux_lemma => kernel_rfl) (by as_aux_lemma => kernel_rfl) (by as_aux_lemma => kernel_rfl) (fun _ _ _ h => h) (Or.inl ⟨by as_aux_lemma => rfl, ?yt40⟩) (by assumption) ?qt40
    case yt40 => (intro wz hSw; (try dsimp only at hSw); go_simp <;> with_reducible rfl)
    try simp only [Act.put, List.getElem_toArray, List.getElem_cons_zero, List.getElem_cons_succ, List.setIfInBounds_toArray, List.set_cons_zero, List.set_cons_succ]
    refine wpAnyH_take (i := 41) (v := ?_) rfl (by as_aux_lemma => kernel_rfl) (by as_aux_lemma => kernel_rfl) (by as_aux_lemma => kernel_rfl) (fun _ _ _ h => h) (Or.inl ⟨by as_aux_lemma => rfl, ?yt41⟩) (by assumption) ?qt41
    case yt41 => (intro wz hSw; (try dsimp only at hSw); go_simp <;> with_reducible rfl)
    try simp only [Act.put, List.getElem_toArray, List.getElem_cons_zero, List.getElem_cons_succ, List.setIfInBounds_toArray, List.set_cons_zero, List.set_cons_succ]
    refine wpAnyH_take (i := 42) (v := ?_) rfl (by as_aux_lemma => kernel_rfl) (by as_aux_lemma => kernel_rfl) (by as_aux_lemma => kernel_rfl) (fun _ _ _ h => h) (Or.inl ⟨by as_aux_lemma => rfl, ?yt42⟩) (by assumption) ?qt42
    case yt42 => (intro wz hSw; (try dsimp only at hSw); go_simp <;> with_reducible rfl)
    try simp only [Act.put, List.getElem_toArray, List.getElem_cons_zero, List.getElem_cons_succ, List.setIfInBounds_toArray, List.set_cons_zero, List.set_cons_succ]
    refine wpAnyH_take (i := 43) (v := ?_) rfl (by as_aux_lemma => kernel_rfl) (by as_aux_lemma => kernel_rfl) (by as_aux_lemma => kernel_rfl) (fun _ _ _ h => h) (Or.inl ⟨by as_aux_lemma => rfl, ?yt43⟩) (by assumption) ?qt43
    case yt43 => (intro wz hSw; (try dsimp only at hSw); go_simp <;> with_reducible rfl)
    try simp only [Act.put, List.getElem_toArray, List.getElem_cons_zero, List.getElem_cons_succ, List.setIfInBounds_toArray, List.set_cons_zero, List.set_cons_succ]
    refine wpAnyH_take (i := 44) (v := ?_) rfl (by as_aux_lemma => kernel_rfl) (by as_aux_lemma => kernel_rfl) (by as_aux_lemma => kernel_rfl) (fun _ _ _ h => h) (Or.inl ⟨by as_aux_lemma => rfl, ?yt44⟩) (by assumption) ?qt44
    case yt44 => (intro wz hSw; (try dsimp only at hSw); go_simp <;> with_reducible rfl)
    try simp only [Act.put, List.getElem_toArray, List.getElem_cons_zero, List.getElem_cons_succ, List.setIfInBounds_toArray, List.set_cons_zero, List.set_cons_succ]
    refine wpAnyH_take (i := 46) (v := ?_) rfl (by as_aux_lemma => kernel_rfl) (by as_aux_lemma => kernel_rfl) (by as_aux_lemma => kernel_rfl) (fun _ _ _ h => h) (Or.inl ⟨by as_aux_lemma => rfl, ?yt46⟩) (by assumption) ?qt46
    case yt46 => (intro wz hSw; (try dsimp only at hSw); go_simp <;> with_reducible rfl)
    try simp only [Act.put, List.getElem_toArray, List.getElem_cons_zero, List.getElem_cons_succ, List.setIfInBounds_toArray, List.set_cons_zero, List.set_cons_succ]
    refine wpAnyH_ready (rs := [45]) (by as_aux_lemma => kernel_rfl) (by simp) ?_
    refine AllReadyH.cons rfl (fun K hK => ?_) AllReadyH.nil
    go_simp
    refine (k_bare id d (bareL l) (HX.out _ B9.out).2.2 HBL.out HBB.out m HM.out).mono ?_
    rintro e u10 ⟨p59, c59, rfl, hx, hb⟩
    have F59 := Lib.hid hx
    have B10 := Lib.hid (Aft.trans B9.out hb)
    clear hb hx
    refine hK.out _ _ (HX.out _ B10.out).1 (fun hHeld10 => ?_)
    clear hK K
    try simp only [Act.put, List.getElem_toArray, List.getElem_cons_zero, List.getElem_cons_succ, List.setIfInBounds_toArray, List.set_cons_zero, List.set_cons_succ]
    refine wpAnyH_ready (rs := [47]) (by as_aux_lemma => kernel_rfl) (by simp) ?_
    refine AllReadyH.cons rfl (fun K hK => ?_) AllReadyH.nil
    go_simp
    refine (k_same id id d d true F59.out (HX.out _ B10.out).2.2 HSM.out).mono ?_
    rintro e u11 ⟨rfl, hb⟩
    have B11 := Lib.hid (Aft.trans B10.out hb)
    clear hb
    clear F59
    refine hK.out _ _ (HX.out _ B11.out).1 (fun hHeld11 => ?_)
    clear hK K
    try simp only [Act.put, List.getElem_toArray, List.getElem_cons_zero, List.getElem_cons_succ, List.setIfInBounds_toArray, List.set_cons_zero, List.set_cons_succ]
    refine wpAnyH_take (i := 48) (v := ?_) rfl (by as_aux_lemma => kernel_rfl) (by as_aux_lemma => kernel_rfl) (by as_aux_lemma => kernel_rfl) (fun _ _ _ h => h) (Or.inl ⟨by as_aux_lemma => rfl, ?yt48⟩) (by assumption) ?qt48
    case yt48 => (intro wz hSw; (try dsimp only at hSw); go_simp <;> with_reducible rfl)
    try simp only [Act.put, List.getElem_toArray, List.getElem_cons_zero, List.getElem_cons_succ, List.setIfInBounds_toArray, List.set_cons_zero, List.set_cons_succ]
    refine wpAnyH_take (i := 49) (v := ?_) rfl (by as_aux_lemma => kernel_rfl) (by as_aux_lemma => kernel_rfl) (by as_aux_lemma => kernel_rfl) (fun _ _ _ h => h) (Or.inl ⟨by as_aux_lemma => rfl, ?yt49⟩) (by assumption) ?qt49
    case yt49 => (intro wz hSw; (try dsimp only at hSw); go_simp <;> with_reducible rfl)
    try simp only [Act.put, List.getElem_toArray, List.getElem_cons_zero, List.getElem_cons_succ, List.setIfInBounds_toArray, List.set_cons_zero, List.set_cons_succ]
    refine wpAnyH_take (i := 50) (v := ?_) rfl (by as_aux_lemma => kernel_rfl) (by as_aux_lemma => kernel_rfl) (by as_aux_lemma => kernel_rfl) (fun _ _ _ h => h) (Or.inl ⟨by as_aux_lemma => rfl, ?yt50⟩) (by assumption) ?qt50
    case yt50 => (intro wz hSw; (try dsimp only at hSw); go_simp <;> with_reducible rfl)
    try simp only [Act.put, List.getElem_toArray, List.getElem_cons_zero, List.getElem_cons_succ, List.setIfInBounds_toArray, List.set_cons_zero, List.set_cons_succ]
    refine wpAnyH_take (i := 51) (v := ?_) rfl (by as_aux_lemma => kernel_rfl) (by as_aux_lemma => kernel_rfl) (by as_aux_lemma => kernel_rfl) (fun _ _ _ h => h) (Or.inl ⟨by as_aux_lemma => rfl, ?yt51⟩) (by assumption) ?qt51
    case yt51 => (intro wz hSw; (try dsimp only at hSw); go_simp <;> with_reducible rfl)
    try simp only [Act.put, List.getElem_toArray, List.getElem_cons_zero, List.getElem_cons_succ, List.setIfInBounds_toArray, List.set_cons_zero, List.set_cons_succ]
    refine wpAnyH_take (i := 53) (v := ?_) rfl (by as_aux_lemma => kernel_rfl) (by as_aux_lemma => kernel_rfl) (by as_aux_lemma => kernel_rfl) (fun _ _ _ h => h) (Or.inl ⟨by as_aux_lemma => rfl, ?yt53⟩) (by assumption) ?qt53
    case yt53 => (intro wz hSw; (try dsimp only at hSw); go_simp <;> with_reducible rfl)
    try simp only [Act.put, List.getElem_toArray, List.getElem_cons_zero, List.getElem_cons_succ, List.setIfInBounds_toArray, List.set_cons_zero, List.set_cons_succ]
    refine wpAnyH_ready (rs := [52]) (by as_aux_lemma => kernel_rfl) (by simp) ?_
    refine AllReadyH.cons rfl (fun K hK => ?_) AllReadyH.nil
    go_simp
    refine (k_weight id d q5 (HX.out _ B11.out).2.2 HBL.out HQ5.out).mono ?_
    rintro e u12 ⟨rfl, hb⟩
    have B12 := Lib.hid (Aft.trans B11.out hb)
    clear hb
    refine hK.out _ _ (HX.out _ B12.out).1 (fun hHeld12 => ?_)
    clear hK K
    try simp only [Act.put, List.getElem_toArray, List.getElem_cons_zero, List.getElem_cons_succ, List.setIfInBounds_toArray, List.set_cons_zero, List.set_cons_succ]
    refine wpAnyH_ready (rs := [54]) (by as_aux_lemma => kernel_rfl) (by simp) ?_
    refine AllReadyH.cons rfl (fun K hK => ?_) AllReadyH.nil
    go_simp
    refine (k_weight id d q2 (HX.out _ B12.out).2.1 HL.out HQ2.out).mono ?_
    rintro e u13 ⟨rfl, hb⟩
    have B13 := Lib.hid (Aft.trans B12.out hb)
    clear hb
    refine hK.out _ _ (HX.out _ B13.out).1 (fun hHeld13 => ?_)
    clear hK K
    try simp only [Act.put, List.getElem_toArray, List.getElem_cons_zero, List.getElem_cons_succ, List.setIfInBounds_toArray, List.set_cons_zero, List.set_cons_succ]
    refine wpAnyH_take (i := 55) (v := ?_) rfl (by as_aux_lemma => kernel_rfl) (by as_aux_lemma => kernel_rfl) (by as_aux_lemma => kernel_rfl) (fun _ _ _ h => h) (Or.inl ⟨by as_aux_lemma => rfl, ?yt55⟩) (by assumption) ?qt55
    case yt55 => (intro wz hSw; (try dsimp only at hSw); go_simp <;> with_reducible rfl)
    try simp only [Act.put, List.getElem_toArray, List.getElem_cons_zero, List.getElem_cons_succ, List.setIfInBounds_toArray, List.set_cons_zero, List.set_cons_succ]
    refine wpAnyH_take (i := 56) (v := ?_) rfl (by as_aux_lemma => kernel_rfl) (by as_aux_lemma => kernel_rfl) (by as_aux_lemma => kernel_rfl) (fun _ _ _ h => h) (Or.inl ⟨by as_aux_lemma => rfl, ?yt56⟩) (by assumption) ?qt56
    case yt56 => (intro wz hSw; (try dsimp only at hSw); go_simp <;> with_reducible rfl)
    try simp only [Act.put, List.getElem_toArray, List.getElem_cons_zero, List.getElem_cons_succ, List.setIfInBounds_toArray, List.set_cons_zero, List.set_cons_succ]
    refine wpAnyH_done (by as_aux_lemma => kernel_rfl) ?_ _
    clear hHeld0 hHeld1 hHeld2 hHeld3 hHeld4 hHeld5 hHeld6 hHeld7 hHeld8 hHeld9 hHeld10 hHeld11 hHeld12 hHeld13
    obtain ⟨⟨x0, x1, x2⟩, ⟨y0, y1, y2⟩⟩ := (HX.out _ B13.out).1
    by_cases hr : rightT id l = 0
    · have hr2 := HRB.out hr
      have HR1 : Hid (Calls Tryd.prog 6 #[.agg #[.int .i64 id, .bool d, .slice p l.length c]] u13 fun e w' => e = .returned (.int .i64 0) ∧ Aft u13 w') := Lib.hid (k_right id d 0 (HX.out _ B13.out).2.1 HL.out hr)
      have HR2 : Hid (∀ W, Aft X0 W → Calls Tryd.prog 6 #[.agg #[.int .i64 id, .bool d, .slice p5 m c5]] W fun e w' => e = .returned (.int .i64 0) ∧ Aft W w') := Lib.hid fun W hW => k_right id d 0 (HX.out _ hW).2.2 HBL.out hr2
      clear hr hr2 HRB
      go_wp2_with fail
      refine (HR1.out).mono ?_
      rintro e w5 ⟨rfl, h5⟩
      have H5 := Lib.hid (B13.out.trans h5)
      clear x0 x1 x2 y0 y1 y2 h5
      obtain ⟨⟨x0, x1, x2⟩, ⟨y0, y1, y2⟩⟩ := (HX.out _ H5.out).1
      go_wp2_with fail
      refine (HR2.out _ H5.out).mono ?_
      rintro e w6 ⟨rfl, h6⟩
      have H6 := Lib.hid (H5.out.trans h6)
      clear h6
      go_wp2
      exact HE.out _ (HA0.out.trans H6.out)
    · obtain ⟨z, hz⟩ : ∃ z, rightT id l = z := ⟨_, rfl⟩
      have hz0 : (z != 0) = true := by rw [bne_iff_ne, ← hz]; exact hr
      have HR1 : Hid (Calls Tryd.prog 6 #[.agg #[.int .i64 id, .bool d, .slice p l.length c]] u13 fun e w' => e = .returned (.int .i64 z) ∧ Aft u13 w') := Lib.hid (k_right id d z (HX.out _ B13.out).2.1 HL.out hz)
      clear hr hz HRB
      go_wp2_with fail
      refine (HR1.out).mono ?_
      rintro e w5 ⟨rfl, h5⟩
      have H5 := Lib.hid (B13.out.trans h5)
      clear h5
      go_wp2
      exact HE.out _ (HA0.out.trans H5.out)
end Go.Proofs.YtphagkpnfbdncaaDoor.Tx
