/-
  Walks: appends of edges; contracts of the document's Begun and Turn. Not a statement of the seat.
-/
import Derived.Test.YtjknnbeemcpppaaDoorWkS
import Derived.Test.YtjknnbeemcpppaaDoorWk4
import Derived.Laws.AppendOwnNone
import Derived.Maps.AppendAt
import Derived.Deep.RegionLaw
namespace Go.Proofs.YtjknnbeemcpppaaDoor.Wk
open Go.ChangeShapes Go.WideShapes Go.ChangeAt Go.RowKit Base Pk F
theorem enc_at (ys : List E) (t : Nat) (y : Value) (h : (ys.flatMap encE)[t]? = some y) : t / 4 < ys.length ∧ (encE (ys.getD (t / 4) zE))[t % 4]? = some y := by
  have h1 := (List.getElem?_eq_some_iff.1 h).1
  rw [flat_len] at h1
  have h2 : t / 4 < ys.length := by omega
  refine ⟨h2, ?_⟩
  rw [← flat_get ys (t / 4) (t % 4) h2 (by omega), ← h]
  congr 1
  omega
theorem eds_cell {w : World} {g o : Nat} {ys : List E} (h : ∀ k, k < ys.length → w.cell? ⟨g, o + k * 4, none⟩ = some (.int .i64 (ys.getD k zE).1) ∧ w.cell? ⟨g, o + k * 4 + 1, none⟩ = some (.int .i64 (ys.getD k zE).2.1) ∧ w.cell? ⟨g, o + k * 4 + 2, none⟩ = some (.int .i64 (ys.getD k zE).2.2.1) ∧ w.cell? ⟨g, o + k * 4 + 3, none⟩ = some (.int .i64 (ys.getD k zE).2.2.2)) {t : Nat} {y : Value} (hy : (ys.flatMap encE)[t]? = some y) : w.cell? ⟨g, o + t, none⟩ = some y := by
  obtain ⟨h1, h2⟩ := enc_at ys t y hy
  obtain ⟨c0, c1, c2, c3⟩ := h (t / 4) h1
  have h4 : t % 4 = 0 ∨ t % 4 = 1 ∨ t % 4 = 2 ∨ t % 4 = 3 := by omega
  have e : ∀ r, t % 4 = r → o + t = o + t / 4 * 4 + r := fun r hr => by omega
  rcases h4 with h | h | h | h
  · rw [h] at h2; rw [e 0 h, ← h2]; exact c0
  · rw [h] at h2; rw [e 1 h, ← h2]; exact c1
  · rw [h] at h2; rw [e 2 h, ← h2]; exact c2
  · rw [h] at h2; rw [e 3 h, ← h2]; exact c3
theorem run_append_eds {B : Nat} {w : World} {v u : Value} {zs ys : List E} (ty : TypeId)
    (hB : B ≤ w.heap.size) (hown : OwnE B w v zs) (hys : Eds w u ys) (hu : ∀ n c, u = .slice none n c → c = 0) (hl : zs.length + ys.length ≤ 1000000) :
    ∃ v' w', (Builtin.append_ #[22, 22] ty #[v, u]).run Tryd.prog w = .ok v' w' ∧ OwnE B w' v' (zs ++ ys) ∧ w.grownBy w' v.ownBlock ∧ (v'.ownBlock = v.ownBlock ∨ v'.ownBlock = some w.heap.size) := by
  obtain ⟨i0, hi, hz0, hz1, hz2⟩ := info_parts info
  rcases hys with ⟨⟨p, c, rfl⟩, rfl⟩ | ⟨g, o', c, rfl, _, _, hc⟩
  · cases p with
    | none =>
      obtain rfl := hu _ _ rfl
      exact ⟨v, w, run_append_owned_none (P := Tryd.prog) (w := w) B 22 ty 32 i0 4 Tryd.underlying22 hi v zs.length (zs.flatMap encE) hown, by rw [List.append_nil]; exact hown, World.grownBy.refl _ _, .inl rfl⟩
    | some ad =>
      obtain ⟨v', w', hr, h2, h3, _, h5⟩ := run_append_own_at (P := Tryd.prog) w B 22 ty 32 i0 (.agg #[.int .i64 0, .int .i64 0, .int .i64 0, .int .i64 0]) 4 32 Tryd.underlying22 hi hz0 hz1 hz2 rfl (by decide) v zs.length (zs.flatMap encE) hown ad 0 c [] (by simp) (by simp) (by simp) (by simp only [maxLen]; omega) (by omega) hB
      refine ⟨v', w', hr, ?_, h3, h5⟩
      rw [List.append_nil]
      unfold OwnE
      simpa using h2
  · obtain ⟨v', w', hr, h2, h3, _, h5⟩ := run_append_own_at (P := Tryd.prog) w B 22 ty 32 i0 (.agg #[.int .i64 0, .int .i64 0, .int .i64 0, .int .i64 0]) 4 32 Tryd.underlying22 hi hz0 hz1 hz2 rfl (by decide) v zs.length (zs.flatMap encE) hown ⟨g, o', none⟩ ys.length c (ys.flatMap encE) (flat_len ys) (by
      intro t y hy
      rw [show (⟨g, o', none⟩ : Addr).add t = ⟨g, o' + t, none⟩ by unfold Addr.add; by_cases h0 : t = 0 <;> simp [h0]]
      exact eds_cell hc hy) (by
      intro y hy
      obtain ⟨x, _, hx⟩ := List.mem_flatMap.1 hy
      simp [encE] at hx
      rcases hx with rfl | rfl | rfl | rfl <;> rfl) (by simp only [maxLen]; omega) (by omega) hB
    refine ⟨v', w', hr, ?_, h3, h5⟩
    unfold OwnE
    rw [List.length_append, List.flatMap_append]
    exact h2
theorem append_eds {ops : Array Oper} {rest : List Oper} {o : Oper} {a : Act} {Q : Exit → Act → World → Prop} (hgd : o.guard = none) (s x : Operand)
    (ho : o.op = .call { callee := .builtin .append, args := #[s, x], argTypes := #[22, 22] }) {B : Nat} {w : World} {v u : Value} {zs ys : List E}
    (hB : B ≤ w.heap.size) (hown : OwnE B w v zs) (hs : a.eval s = v) (hys : Eds w u ys) (hu : ∀ n c, u = .slice none n c → c = 0) (hx : a.eval x = u) (hl : zs.length + ys.length ≤ 1000000)
    (h : ∀ v' w', OwnE B w' v' (zs ++ ys) → w.grownBy w' v.ownBlock → (v'.ownBlock = v.ownBlock ∨ v'.ownBlock = some w.heap.size) → wpList Tryd.prog ops Q rest (a.put o.dst v') w') :
    wpList Tryd.prog ops Q (o :: rest) a w := by
  refine wpList_plain hgd fun K hK => ?_
  obtain ⟨v', w', hr, h2, h3, h5⟩ := run_append_eds o.type hB hown hys hu hl
  unfold Oper.wp execOp
  simp only [ho, resolve, invoke, builtin, Sem.run_bind, Sem.run_pure, Result.andThen_ok, List.map_toArray, List.map_cons, List.map_nil, hs, hx, hr]
  exact hK _ _ (h v' w' h2 h3 h5)
theorem step_append_eds {ops : Array Oper} {o : Oper} {a : Act} {w : World} {K : Act → World → Prop} {Q : Exit → Act → World → Prop} {E' : Prop} (hgd : o.guard = none) (s x : Operand)
    (ho : o.op = .call { callee := .builtin .append, args := #[s, x], argTypes := #[22, 22] }) {B : Nat} {v u : Value} {zs ys : List E}
    (hB : B ≤ w.heap.size) (hown : OwnE B w v zs) (hs : a.eval s = v) (hys : Eds w u ys) (hu : ∀ n c, u = .slice none n c → c = 0) (hx : a.eval x = u) (hl : zs.length + ys.length ≤ 1000000)
    (hK : ∀ v' w', OwnE B w' v' (zs ++ ys) → w.grownBy w' v.ownBlock → (v'.ownBlock = v.ownBlock ∨ v'.ownBlock = some w.heap.size) → K (a.put o.dst v') w') :
    if Region.wanted o (yielded ops a.tmps) = true then Oper.wp Tryd.prog o a w K Q else E' := by
  rw [if_pos (by simp [Region.wanted, hgd])]
  obtain ⟨v', w', hr, h2, h3, h5⟩ := run_append_eds o.type hB hown hys hu hl
  unfold Oper.wp
  simp [execOp, ho, resolve, invoke, builtin, hs, hx, hr, Result.andThen]
  exact hK v' w' h2 h3 h5
theorem ownE_empty {B : Nat} {W : World} {g : Nat} (hB : B ≤ g) (h : W.heap[g]? = some (.cells #[] 32)) : OwnE B W (.slice (some ⟨g, 0, none⟩) 0 0) [] :=
  ⟨rfl, .inr ⟨g, 0, #[], rfl, hB, h, Nat.le_refl _, by simp [maxLen], rfl, rfl⟩⟩
theorem ownE_capd {B : Nat} {w : World} {v : Value} {zs : List E} (h : OwnE B w v zs) : Capd v := by
  intro p n c e
  rcases h.2 with ⟨hv, h0⟩ | ⟨g, cap, cur, hv, hB, hg, hc, _⟩
  · rw [hv] at e
    injection e with e1 e2 e3
    subst e1 e2 e3
    exact ⟨Nat.le_refl _, fun _ => rfl⟩
  · rw [hv] at e
    injection e with e1 e2 e3
    subst e1 e2 e3
    exact ⟨hc, fun h => by cases h⟩
theorem ownE_form {B : Nat} {w : World} {v : Value} {zs : List E} (h : OwnE B w v zs) : ∃ p c, v = .slice p zs.length c := by
  rcases h.2 with ⟨hv, h0⟩ | ⟨g, cap, cur, hv, _⟩
  · exact ⟨none, 0, by rw [hv, h0]⟩
  · exact ⟨_, _, hv⟩
/-- What a call that makes a list of edges leaves. -/
def OwnP (zs : List E) (w : World) (e : Ending) (w' : World) : Prop := ∃ v, e = .returned v ∧ OwnE w.heap.size w' v zs ∧ Below w.heap.size w w'
theorem OwnP.new {zs : List E} {w w' : World} {e : Ending} (h : OwnP zs w e w') (hl : zs.length ≤ 1000000) : ∃ v, e = .returned v ∧ Eds w' v zs ∧ Capd v ∧ Below w.heap.size w w' := by
  obtain ⟨v, h1, h2, h3⟩ := h
  exact ⟨v, h1, h2.eds (by omega), ownE_capd h2, h3⟩
set_option maxRecDepth 100000 in
set_option maxHeartbeats 4000000 in
theorem begun_any {v : Value} {l : List E} {n i : Nat} (w : World) (h : Eds w v l) (hn : l.length = n) (hl : n ≤ 1000) (hcp : Capd v) (hi : i ≤ n) : Calls Tryd.prog 20 #[v, .int .i64 (i : Int)] w (OwnP (rot l i) w) := by
  obtain ⟨p, c, rfl, hc⟩ := eds_at h hn
  have hcap := hcp _ _ _ rfl
  have hs1 := slice_drop p n c i hi
  have hs2 := slice_take p n c i (by omega)
  have HD := Lib.hid (eds_drop h hn i hi hcap.1)
  have HT := Lib.hid (eds_take h i hi hcap.1)
  have HC1 := Lib.hid (sliced_capd hcap i n hi (Nat.le_refl _))
  have HC2 := Lib.hid (take_capd hcap i hi)
  have HL1 : Hid ((l.drop i).length ≤ 1000) := Lib.hid (by rw [List.length_drop]; omega)
  have HL2 : Hid ((l.take i).length ≤ 1000) := Lib.hid (by rw [List.length_take]; omega)
  have HF : Hid (∀ v' w', OwnE w.heap.size w' v' (l.drop i ++ l.take i) → Below w.heap.size w w' → OwnP (rot l i) w (.returned v') w') := Lib.hid fun v' w' h1 h2 => ⟨v', rfl, h1, h2⟩
  obtain ⟨q, hq⟩ := sliced_form p i n c
  rw [hq] at hs1 HD HC1
  generalize OwnP (rot l i) w = Post at HF ⊢
  generalize l.drop i = xs at HD HL1 HF
  generalize l.take i = ys at HT HL2 HF
  have hii : (i : Int) ≤ (n : Int) := by omega
  clear h hc hcp hcap hn hq
  go_enter Tryd.func20, Tryd.ntmps20
  go_wp2_with fail
  go_region_law (first
    | (refine step_append_eds (v := .slice (some ⟨_, 0, none⟩) 0 0) (zs := []) rfl (.tmp 5) (.tmp 8) rfl (Nat.zero_le _) (ownE_empty (Nat.zero_le _) (by first | exact heap_alloc_at _ _ _ (by simp) | exact heap_alloc_lt _ _ _ _ (heap_alloc_at _ _ _ (by simp)))) rfl (HD.out.below (by go_grown)) (fun n c e => (HC1.out _ _ _ e).2 rfl) rfl (by have := HL1.out; simp; omega) ?_
       intro v1 wa ho1 hg1 hat1
       rw [List.nil_append] at ho1
       have HB1 : Hid (Below w.heap.size w wa) := Lib.hid (Below.grown (by go_grown) hg1 (by first | (simp; done) | (simp; omega)) (fun k hk => by simp [Value.ownBlock] at hk; omega))
       have HQ1 : Hid (∃ g, v1.ownBlock = some g ∧ w.heap.size ≤ g) := Lib.hid (by
         rcases hat1 with h | h
         · exact ⟨_, h, by first | (simp; done) | (simp; omega)⟩
         · exact ⟨_, h, by first | (simp; done) | (simp; omega)⟩)
       have HO1 := Lib.hid ho1
       clear ho1 hg1 hat1)
    | (refine step_append_eds (B := 0) (v := v1) (zs := xs) rfl (.tmp 9) (.tmp 12) rfl (Nat.zero_le _) HO1.out rfl (HT.out.below HB1.out) (fun n c e => (HC2.out _ _ _ e).2 rfl) rfl (by have := HL1.out; have := HL2.out; omega) ?_
       intro v2 wb ho2 hg2 hat2
       have HE : Hid (Post (.returned v2) wb) := Lib.hid (by
         obtain ⟨gq, e1, e2⟩ := HQ1.out
         refine HF.out _ _ ⟨ho2.1, ?_⟩ (Below.grown HB1.out hg2 HB1.out.size (fun k hk => by rw [e1] at hk; injection hk with hk; omega))
         rcases ho2.2 with hz | ⟨g, cap, cur, hv, _, rest⟩
         · exact .inl hz
         · refine .inr ⟨g, cap, cur, hv, ?_, rest⟩
           rcases hat2 with h | h
           · rw [hv] at h
             rw [e1] at h
             simp [Value.ownBlock] at h
             omega
           · rw [hv] at h
             simp [Value.ownBlock] at h
             have := HB1.out.size
             omega)
       clear ho2 hg2 hat2))
  all_goals go_wp2
  all_goals go_ret
  all_goals exact HE.out
theorem lessW_same {xs ys : List E} (h : xs.length = ys.length) : lessW xs ys = lexB ltE xs ys := by unfold lessW; rw [if_pos h]
/-- What has been found of the first k turns. -/
def foldT (l : List E) (k : Nat) : List E := (List.range k).foldl (fun out i => if lexB ltE (rot l i) out = true then rot l i else out) l
theorem foldT_len (l : List E) : ∀ k, k ≤ l.length → (foldT l k).length = l.length := fun k hk => by
  obtain ⟨m, hm, e, _⟩ := fold_turn (l := l) totL k hk
  unfold foldT
  rw [e, rot_len hm]
theorem foldT_succ (l : List E) (k : Nat) : foldT l (k + 1) = if lexB ltE (rot l k) (foldT l k) = true then rot l k else foldT l k := by
  unfold foldT
  rw [List.range_succ, List.foldl_append]
  rfl
set_option maxRecDepth 100000 in
set_option maxHeartbeats 4000000 in
theorem rturn_any {v : Value} {l : List E} {n : Nat} (w : World) (h : Eds w v l) (hn : l.length = n) (hl : n ≤ 1000) (hcp : Capd v) : Calls Tryd.prog 17 #[v] w (EdsNew (turnL ltE l) w) := by
  obtain ⟨p, c, hv, _⟩ := eds_at h hn
  have HBG : Hid (∀ X, Below w.heap.size w X → ∀ i, i < n → Calls Tryd.prog 20 #[v, .int .i64 (i : Int)] X (OwnP (rot l i) X)) := Lib.hid fun X hX i hi => begun_any X (h.below hX) hn hl hcp (by omega)
  have HLS : Hid (∀ X k u o, k < n → Eds X u (rot l k) → Eds X o (foldT l k) → Calls Tryd.prog 13 #[u, o] X (BoolP (lexB ltE (rot l k) (foldT l k)) X)) := Lib.hid fun X k u o hk hu ho => by
    have e1 : (rot l k).length = n := by rw [rot_len (by omega), hn]
    have e2 : (foldT l k).length = n := by rw [foldT_len l k (by omega), hn]
    have := rless_any X hu ho (by omega) (by omega)
    rwa [lessW_same (e1.trans e2.symm)] at this
  have HST : Hid (∀ k, foldT l (k + 1) = if lexB ltE (rot l k) (foldT l k) = true then rot l k else foldT l k) := Lib.hid (foldT_succ l)
  have HRL : Hid (∀ k, k < n → (rot l k).length ≤ 1000000) := Lib.hid fun k hk => by rw [rot_len (by omega)]; omega
  have HLN : Hid (l.length ≤ 1000) := Lib.hid (by omega)
  have HEV : Hid (Eds w v l ∧ ∀ n c, v = .slice none n c → c = 0) := Lib.hid ⟨h, fun n c e => (hcp _ _ _ e).2 rfl⟩
  have HEND : Hid (foldT l n = turnL ltE l ∧ foldT l 0 = l) := Lib.hid ⟨by unfold foldT turnL; rw [hn], rfl⟩
  have hni : (n : Int) ≤ 1000 := by omega
  subst hv
  clear h hn hcp
  generalize turnL ltE l = r at HEND ⊢
  go_enter Tryd.func17, Tryd.ntmps17
  go_wp2_with (at_builtin; refine append_eds rfl _ _ rfl (B := w.heap.size) (zs := []) (by simp) (ownE_empty (Nat.le_refl _) (heap_alloc_at _ _ _ rfl)) rfl (HEV.out.1.below (alloc_bel w _)) HEV.out.2 rfl (by have := HLN.out; simp; omega) ?_; intro v1 w1 ho1 hg1 hat1)
  rw [List.nil_append] at ho1
  have HO : Hid (Eds w1 v1 l ∧ Below w.heap.size w w1) := Lib.hid ⟨ho1.eds (by have := HLN.out; omega), (alloc_bel w (.cells #[] 32)).grown hg1 (by simp) (fun k hk => by simp [Value.ownBlock] at hk; omega)⟩
  clear ho1 hg1 hat1
  go_wp2_with fail
  go_loopw [3, 11] (fun s3 s11 wr => ∃ k : Nat, s11 = .int .i64 (k : Int) ∧ k ≤ n ∧ ∃ v, v = s3 ∧ Hid (Eds wr v (foldT l k) ∧ Below w.heap.size w wr)) (fun _ s11 _ => n - (intOf s11).toNat)
  case atStart => exact ⟨0, rfl, Nat.zero_le _, _, rfl, Lib.hid ⟨by rw [HEND.out.2]; exact HO.out.1, HO.out.2⟩⟩
  case round =>
    clear HO
    obtain ⟨k, rfl, hk, v3, hv3, HI⟩ := hrel
    subst hv3
    by_cases hlt : k < n
    · have hii : (k : Int) < (n : Int) := by omega
      have HB := Lib.hid (HBG.out wr HI.out.2 k hlt)
      have HSK := Lib.hid (HST.out k)
      have HL2 := Lib.hid (fun X u (hu : Eds X u (rot l k)) (hb : Below wr.heap.size wr X) => HLS.out X k u v3 hlt hu (HI.out.1.below hb))
      have HRK := Lib.hid (HRL.out k hlt)
      generalize lexB ltE (rot l k) (foldT l k) = t at HL2 HSK
      go_wp2_with fail
      refine HB.out.mono ?_
      intro e w2 hb2
      obtain ⟨v5, rfl, h5, _, hw2⟩ := hb2.new HRK.out
      have HL3 := Lib.hid (HL2.out w2 v5 h5 hw2)
      have H5 := Lib.hid (And.intro h5 hw2)
      clear hb2 h5 hw2 HB HL2
      go_wp2_with fail
      refine HL3.out.mono ?_
      rintro e w3 ⟨rfl, hw3⟩
      have H6 : Hid (Eds w3 v5 (rot l k) ∧ Eds w3 v3 (foldT l k) ∧ Below w.heap.size w w3) := Lib.hid ⟨H5.out.1.below hw3, HI.out.1.below (H5.out.2.trans (hw3.mono H5.out.2.size)), HI.out.2.trans ((H5.out.2.trans (hw3.mono H5.out.2.size)).mono HI.out.2.size)⟩
      clear hw3 HL3 H5 HI
      cases t with
      | true =>
        rw [if_pos rfl] at HSK
        go_wp2_with fail
        go_roundw
        case rel => exact ⟨k + 1, by go_num, by omega, _, rfl, Lib.hid ⟨by rw [HSK.out]; exact H6.out.1, H6.out.2.2⟩⟩
        case measure => simp [intOf]; omega
      | false =>
        rw [if_neg (by decide)] at HSK
        go_wp2_with fail
        go_roundw
        case rel => exact ⟨k + 1, by go_num, by omega, _, rfl, Lib.hid ⟨by rw [HSK.out]; exact H6.out.2.1, H6.out.2.2⟩⟩
        case measure => simp [intOf]; omega
    · have hin : k = n := by omega
      subst hin
      have HF : Hid (EdsNew r w (.returned v3) wr) := Lib.hid ⟨⟨v3, rfl, by rw [← HEND.out.1]; exact HI.out.1⟩, HI.out.2⟩
      have hii : ¬ (k : Int) < (k : Int) := by omega
      clear HI hlt HBG HLS
      go_wp2
      go_ret
      exact HF.out
end Go.Proofs.YtjknnbeemcpppaaDoor.Wk
