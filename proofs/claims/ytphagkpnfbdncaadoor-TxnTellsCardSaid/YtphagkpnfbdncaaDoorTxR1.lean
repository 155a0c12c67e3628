/-
  Contracts of the document's InVersions, Needs and Same of transactions. Not a statement of the seat.
-/
import Derived.Test.YtphagkpnfbdncaaDoorTx9
namespace Go.Proofs.YtphagkpnfbdncaaDoor.Tx
open Go.ChangeShapes Go.WideShapes Go.ChangeAt Go.RowKit Base F Lst Nu
set_option maxRecDepth 100000 in
set_option maxHeartbeats 1000000 in
theorem inv_any {base : Nat} {s : Value} {l : List Ver} (y : Ver) (w : World) (h : Vers base w s l) (hl : l.length ≤ 100000) : Calls Tryd.prog 35 #[s, .agg #[.int .i64 y.t, .int .i64 y.k, .int .i64 y.n]] w (BoolNew (inV l y) w) := by
  obtain ⟨p, c, rfl, _, hc⟩ := h.open_
  have HC := Lib.hid hc
  have HE : Hid (∀ b w', b = inV l y → Aft w w' → BoolNew (inV l y) w (.returned (.bool b)) w') := Lib.hid fun b w' h1 h2 => ⟨by rw [h1], h2⟩
  clear h hc
  generalize BoolNew (inV l y) w = Post at HE ⊢
  go_enter Tryd.func35, Tryd.ntmps35
  go_wp2
  go_loopw [9] (fun s9 wr => ∃ k : Nat, s9 = .int .i64 k ∧ k ≤ l.length ∧ Hid (inV (l.drop k) y = inV l y) ∧ Hid (Aft w wr ∧ wr.heap[w.heap.size]? = some (boxV y))) (fun s9 _ => l.length - (intOf s9).toNat)
  case atStart => exact ⟨0, rfl, Nat.zero_le _, Lib.hid (by simp), Lib.hid ⟨Aft.one _, heap_alloc_at _ _ _ rfl⟩⟩
  case round =>
    obtain ⟨k, rfl, hk, HG, HW⟩ := hrel
    by_cases hlt : k < l.length
    · obtain ⟨g', o', rfl, _, hg', c0, c1, c2⟩ := HC.out k hlt
      have d0 := HW.out.1.cell hg' c0
      have d1 := HW.out.1.cell hg' c1
      have d2 := HW.out.1.cell hg' c2
      obtain ⟨e0, e1, e2⟩ : wr.cell? ⟨w.heap.size, 0, none⟩ = some (.int .i64 y.t) ∧ wr.cell? ⟨w.heap.size, 1, none⟩ = some (.int .i64 y.k) ∧ wr.cell? ⟨w.heap.size, 2, none⟩ = some (.int .i64 y.n) := by
        have := HW.out.2
        unfold boxV at this
        simp [World.cell?, this]
      have hyl := heap_lt HW.out.2
      have HD : Hid (inV (l.drop k) y = (Ver.beq (l.getD k Ver.zero) y || inV (l.drop (k + 1)) y)) := Lib.hid (by rw [drop_cons l Ver.zero k hlt]; rfl)
      have HW2 : Hid (∀ o, Aft w (wr.alloc o) ∧ (wr.alloc o).heap[w.heap.size]? = some (boxV y)) := Lib.hid fun o => ⟨HW.out.1.lay o, heap_alloc_lt _ _ _ _ HW.out.2⟩
      clear c0 c1 c2
      generalize l.getD k Ver.zero = x at d0 d1 d2 HD
      have hq := fun W => eq_ver x y W
      cases hb : Ver.beq x y with
      | true =>
        have HV : Hid (true = inV l y) := Lib.hid (by rw [← HG.out, HD.out, hb]; rfl)
        simp only [hb] at hq
        clear HG HD hb
        go_wp2
        exact HE.out _ _ HV.out (HW2.out _).1
      | false =>
        have HV : Hid (inV (l.drop (k + 1)) y = inV l y) := Lib.hid (by rw [← HG.out, HD.out, hb]; rfl)
        simp only [hb] at hq
        clear HG HD hb
        go_wp2
        go_roundw
        case rel => exact ⟨k + 1, by go_num, by omega, HV, Lib.hid (HW2.out _)⟩
        case measure => simp [intOf]; omega
    · have HV : Hid (false = inV l y) := Lib.hid (by rw [← HG.out, List.drop_eq_nil_of_le (by omega)]; rfl)
      have HA := Lib.hid HW.out.1
      clear HG HW
      go_wp2
      exact HE.out _ _ HV.out HA.out
/-- On the way: the transaction's box, the versions. -/
def RN (w wr : World) (id : Int) (d : Bool) (s : Value) (acc : List Ver) (v : Value) : Prop :=
  wr.heap[w.heap.size]? = some (boxT id d s) ∧ OwnVer (w.heap.size + 1) wr v acc ∧ Aft w wr
theorem RN.aft {w wr W : World} {id : Int} {d : Bool} {s v : Value} {acc : List Ver} (h : RN w wr id d s acc v) (ha : Aft wr W) : RN w W id d s acc v :=
  ⟨(ha.block _ (heap_lt h.1)).trans h.1, h.2.1.below ha, h.2.2.trans ha⟩
theorem RN.lay {w wr : World} {id : Int} {d : Bool} {s v : Value} {acc : List Ver} (h : RN w wr id d s acc v) (o : Obj) : RN w (wr.alloc o) id d s acc v := h.aft (Aft.one o)
theorem RN.app {w wr w' : World} {id : Int} {d : Bool} {s v v' : Value} {acc acc' : List Ver} (h : RN w wr id d s acc v) (ho : OwnVer (w.heap.size + 1) w' v' acc') (hg : wr.grownBy w' v.ownBlock) : RN w w' id d s acc' v' := by
  have hne : ∀ j, j ≤ w.heap.size → some j ≠ v.ownBlock := fun j hj e => by have := (h.2.1.base j e.symm).1; omega
  exact ⟨(hg.block _ (heap_lt h.1) (hne _ (Nat.le_refl _))).trans h.1, ho, Below.grown h.2.2 hg h.2.2.size (fun k hk => by have := (h.2.1.base k hk).1; omega)⟩
set_option maxRecDepth 100000 in
set_option maxHeartbeats 4000000 in
theorem rneeds_any {base : Nat} {s : Value} {l : List Opr} (id : Int) (d : Bool) (w : World) (h : Oprs base w s l) (hl : l.length ≤ 100000) : Calls Tryd.prog 16 #[.agg #[.int .i64 id, .bool d, s]] w (VerNew (needsL id l) w) := by
  obtain ⟨p, c, rfl, _, hc⟩ := h.open_
  have HC := Lib.hid hc
  have HE : Hid (∀ v w', OwnVer (w.heap.size + 1) w' v (needsL id l) → Aft w w' → VerNew (needsL id l) w (.returned v) w') := Lib.hid fun v w' h1 h2 => ⟨v, rfl, ownVer_mono h1 (by omega), h2⟩
  clear h hc
  generalize VerNew (needsL id l) w = Post at HE ⊢
  go_enter Tryd.func16, Tryd.ntmps16
  go_wp2
  go_loopw [3, 10] (fun s3 s10 wr => ∃ (k : Nat) (acc : List Ver) (v : Value), s10 = .int .i64 k ∧ v = s3 ∧ k ≤ l.length ∧ acc.length ≤ k ∧ Hid (RN w wr id d (.slice p l.length c) acc v) ∧ Hid (acc = needsL id (l.take k))) (fun _ s10 _ => l.length - (intOf s10).toNat)
  case atStart => exact ⟨0, [], _, rfl, rfl, Nat.zero_le _, Nat.le_refl _, Lib.hid ⟨heap_alloc_at _ _ _ rfl, OwnVer.nil _ _, Aft.one _⟩, Lib.hid rfl⟩
  case round =>
    obtain ⟨k, acc, v, rfl, hv, hk, hac, HN, HG⟩ := hrel
    subst hv
    by_cases hlt : k < l.length
    · obtain ⟨g', o', rfl, _, hg', c0, c1, c2, c3⟩ := HC.out k hlt
      have d0 := HN.out.2.2.cell hg' c0
      have d1 := HN.out.2.2.cell hg' c1
      have d2 := HN.out.2.2.cell hg' c2
      have d3 := HN.out.2.2.cell hg' c3
      have HS : Hid (needsL id (l.take (k + 1)) = needStep id acc (l.getD k Opr.zero)) := Lib.hid (by rw [take_snoc l Opr.zero k hlt, needs_snoc, HG.out])
      clear c0 c1 c2 c3 HG
      generalize l.getD k Opr.zero = x at d0 d1 d2 d3 HS
      obtain ⟨xr, xk, xt, xn⟩ := x
      dsimp only at d0 d1 d2 d3
      have HBX : Hid (∀ W, Aft (wr.alloc (boxO ⟨xr, xk, xt, xn⟩)) W → RN w W id d (.slice (some ⟨g', o', none⟩) l.length c) acc v ∧ W.heap[wr.heap.size]? = some (boxO ⟨xr, xk, xt, xn⟩)) := Lib.hid fun W hW => ⟨(HN.out.lay _).aft hW, (hW.block _ (by simp)).trans (heap_alloc_at _ _ _ rfl)⟩
      cases xr with
      | false =>
        have HF : Hid (acc = needsL id (l.take (k + 1))) := Lib.hid (by rw [HS.out]; rfl)
        clear HS
        go_wp2_with (go_at_call 34; refine (Op.ofR_w _ _ _ _).mono ?_; rintro e w2 ⟨rfl, h2⟩; obtain ⟨_, ⟨y0, y1, y2, y3⟩, _⟩ := cellsO (HBX.out _ h2).2; have H2 := Lib.hid (fun o => (HBX.out _ h2).1.lay o); clear h2)
        go_roundw
        case rel => exact ⟨k + 1, acc, v, by go_num, rfl, by omega, by omega, Lib.hid (H2.out _), HF⟩
        case measure => simp [intOf]; omega
      | true =>
        by_cases h0 : xt = 0
        · have HF : Hid (acc = needsL id (l.take (k + 1))) := Lib.hid (by rw [HS.out]; simp [needStep, need, h0])
          subst h0
          clear HS
          go_wp2_with (go_at_call 34; refine (Op.ofR_r _ _ _ _).mono ?_; rintro e w2 ⟨rfl, h2⟩; obtain ⟨_, ⟨y0, y1, y2, y3⟩, _⟩ := cellsO (HBX.out _ h2).2; have H2 := Lib.hid (fun o => (HBX.out _ h2).1.lay o); clear h2)
          go_roundw
          case rel => exact ⟨k + 1, acc, v, by go_num, rfl, by omega, by omega, Lib.hid (H2.out _), HF⟩
          case measure => simp [intOf]; omega
        · have e0 : (xt != 0) = true := by rw [bne_iff_ne]; exact h0
          by_cases h1 : xt = id
          · have HF : Hid (acc = needsL id (l.take (k + 1))) := Lib.hid (by rw [HS.out]; simp [needStep, need, h1])
            subst h1
            clear HS
            go_wp2_with (go_at_call 34; refine (Op.ofR_r _ _ _ _).mono ?_; rintro e w2 ⟨rfl, h2⟩; obtain ⟨_, ⟨y0, y1, y2, y3⟩, _⟩ := cellsO (HBX.out _ h2).2; obtain ⟨_, ⟨v0, _, _⟩, _⟩ := cellsT (HBX.out _ h2).1.1; have H2 := Lib.hid (fun o => (HBX.out _ h2).1.lay o); clear h2)
            go_roundw
            case rel => exact ⟨k + 1, acc, v, by go_num, rfl, by omega, by omega, Lib.hid (H2.out _), HF⟩
            case measure => simp [intOf]; omega
          · have e1 : (xt != id) = true := by rw [bne_iff_ne]; exact h1
            have HIN : Hid (∀ W, RN w W id d (.slice (some ⟨g', o', none⟩) l.length c) acc v → Calls Tryd.prog 35 #[v, .agg #[.int .i64 xt, .int .i64 xk, .int .i64 xn]] W (BoolNew (inV acc ⟨xt, xk, xn⟩) W)) := Lib.hid fun W hW => inv_any ⟨xt, xk, xn⟩ W (hW.2.1.list (by omega)) (by omega)
            have HV2 : Hid (∀ (W W2 : World), Aft (W.alloc (boxV ⟨xt, xk, xn⟩)) W2 → W2.cell? ⟨W.heap.size, 0, none⟩ = some (.int .i64 xt) ∧ W2.cell? ⟨W.heap.size, 1, none⟩ = some (.int .i64 xk) ∧ W2.cell? ⟨W.heap.size, 2, none⟩ = some (.int .i64 xn)) := Lib.hid fun W W2 h => cellsV (w := W) (p := ⟨xt, xk, xn⟩) (h.block _ (by simp))
            cases hin : inV acc ⟨xt, xk, xn⟩ with
            | true =>
              have HF : Hid (acc = needsL id (l.take (k + 1))) := Lib.hid (by rw [HS.out]; simp [needStep, need, verO, hin])
              rw [hin] at HIN
              clear HS hin
              go_wp2_with (first
                | (go_at_call 34; refine (Op.ofR_r _ _ _ _).mono ?_; rintro e w2 ⟨rfl, h2⟩; obtain ⟨_, ⟨y0, y1, y2, y3⟩, _⟩ := cellsO (HBX.out _ h2).2; obtain ⟨_, ⟨v0, _, _⟩, _⟩ := cellsT (HBX.out _ h2).1.1; have H2 := Lib.hid (fun o => (HBX.out _ h2).1.lay o); clear h2)
                | (go_at_call 35; refine (HIN.out _ (H2.out _)).mono ?_; rintro e w3 ⟨rfl, h3⟩; have H3 := Lib.hid ((H2.out _).aft h3); clear h3))
              go_roundw
              case rel => exact ⟨k + 1, acc, v, by go_num, rfl, by omega, by omega, H3, HF⟩
              case measure => simp [intOf]; omega
            | false =>
              have HF : Hid (acc ++ [(⟨xt, xk, xn⟩ : Ver)] = needsL id (l.take (k + 1))) := Lib.hid (by rw [HS.out]; simp [needStep, need, verO, hin, h0, h1])
              rw [hin] at HIN
              clear HS hin
              go_wp2_with (first
                | (go_at_call 34; refine (Op.ofR_r _ _ _ _).mono ?_; rintro e w2 ⟨rfl, h2⟩; obtain ⟨_, ⟨y0, y1, y2, y3⟩, _⟩ := cellsO (HBX.out _ h2).2; obtain ⟨_, ⟨v0, _, _⟩, _⟩ := cellsT (HBX.out _ h2).1.1; have H2 := Lib.hid (fun o => (HBX.out _ h2).1.lay o); clear h2)
                | (go_at_call 35; refine (HIN.out _ (H2.out _)).mono ?_; rintro e w3 ⟨rfl, h3⟩; obtain ⟨z0, z1, z2⟩ := HV2.out _ _ h3; have H3 := Lib.hid ((H2.out _).aft h3); clear h3)
                | (at_builtin; refine append_vers rfl (.tmp 36) (.tmp 38) rfl (by have := H3.out.2.2.size; have := heap_lt H3.out.1; simp; omega) (H3.out.lay _).2.1 rfl (ver_at ⟨xt, xk, xn⟩ (heap_alloc_at _ _ _ (by simp))) rfl (by simp only [List.length_cons, List.length_nil]; omega) ?_; intro v5 w5 h5 hg5 _; have H5 := Lib.hid ((H3.out.lay _).app h5 hg5); clear h5 hg5))
              go_roundw
              case rel => exact ⟨k + 1, acc ++ [⟨xt, xk, xn⟩], _, by go_num, rfl, by omega, by simp; omega, H5, HF⟩
              case measure => simp [intOf]; omega
    · have HF : Hid (acc = needsL id l) := Lib.hid (by rw [HG.out, List.take_of_length_le (by omega)])
      have HN2 := Lib.hid HN.out.2.2
      have HO := Lib.hid HN.out.2.1
      clear HG HN
      go_wp2
      exact HE.out _ _ (by rw [← HF.out]; exact HO.out) HN2.out
end Go.Proofs.YtphagkpnfbdncaaDoor.Tx
