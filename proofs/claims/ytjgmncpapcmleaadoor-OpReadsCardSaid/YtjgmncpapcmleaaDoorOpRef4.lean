/-
  Contract of the document's own answer on operations' texts: Read, of one number. Not a statement of the seat.
-/
import Derived.Test.YtjgmncpapcmleaaDoorOpRef3
import Derived.Test.YtjgmncpapcmleaaDoorLstAp
namespace Go.Proofs.YtjgmncpapcmleaaDoor.Op
open Go.ChangeShapes Go.WideShapes Go.ChangeAt Go.RowKit Base Nu F Go.Lib Lst
theorem own_cells1 {B : Nat} {w : World} {v : Value} {x : Int} (h : OwnI B w v [x]) : ∃ g c, v = .slice (some ⟨g, 0, none⟩) 1 c ∧ (B ≤ g ∧ g < w.heap.size) ∧ w.cell? ⟨g, 0, none⟩ = some (.int .i64 x) := by
  rcases h.form with ⟨h0, _⟩ | ⟨g, c, hv, hB, hg, _⟩
  · cases h0
  · have hc := World.ownsRow.cellAt (show w.ownsRow B 3 1 (.slice (some ⟨g, 0, none⟩) 1 c) 1 ([x].map (Value.int .i64)) from hv ▸ h)
    exact ⟨g, c, hv, ⟨hB, hg⟩, by simpa using hc 0 (by simp)⟩
theorem own_cells2 {B : Nat} {w : World} {v : Value} {x y : Int} (h : OwnI B w v [x, y]) : ∃ g c, v = .slice (some ⟨g, 0, none⟩) 2 c ∧ (B ≤ g ∧ g < w.heap.size) ∧ w.cell? ⟨g, 0, none⟩ = some (.int .i64 x) ∧ w.cell? ⟨g, 1, none⟩ = some (.int .i64 y) := by
  rcases h.form with ⟨h0, _⟩ | ⟨g, c, hv, hB, hg, _⟩
  · cases h0
  · have hc := World.ownsRow.cellAt (show w.ownsRow B 3 1 (.slice (some ⟨g, 0, none⟩) 2 c) 2 ([x, y].map (Value.int .i64)) from hv ▸ h)
    exact ⟨g, c, hv, ⟨hB, hg⟩, by simpa using hc 0 (by simp), by simpa using hc 1 (by simp)⟩
theorem own_cells3 {B : Nat} {w : World} {v : Value} {x y z : Int} (h : OwnI B w v [x, y, z]) : ∃ g c, v = .slice (some ⟨g, 0, none⟩) 3 c ∧ (B ≤ g ∧ g < w.heap.size) ∧ w.cell? ⟨g, 0, none⟩ = some (.int .i64 x) ∧ w.cell? ⟨g, 1, none⟩ = some (.int .i64 y) ∧ w.cell? ⟨g, 2, none⟩ = some (.int .i64 z) := by
  rcases h.form with ⟨h0, _⟩ | ⟨g, c, hv, hB, hg, _⟩
  · cases h0
  · have hc := World.ownsRow.cellAt (show w.ownsRow B 3 1 (.slice (some ⟨g, 0, none⟩) 3 c) 3 ([x, y, z].map (Value.int .i64)) from hv ▸ h)
    exact ⟨g, c, hv, ⟨hB, hg⟩, by simpa using hc 0 (by simp), by simpa using hc 1 (by simp), by simpa using hc 2 (by simp)⟩
theorem appI_below {w0 W w' : World} {v : Value} {zs : List Int} (hb : Below w0.heap.size w0 W) (hown : OwnI w0.heap.size W v zs) (hg : W.grownBy w' v.ownBlock) : Below w0.heap.size w0 w' := hb.grown hg hb.size (own_base hown)
theorem ext_size (s : ByteArray) (a b : Nat) : (s.extract a b).size ≤ b := by
  have : (s.extract a b).size = min b s.size - a := by simp
  omega
/-- Behind the parts: where the walk stands, and which parts there are. -/
def PS4 (s : ByteArray) (w : World) (a : Nat) (v : Value) (lo hi : Nat) (wx : World) : Prop :=
  ∃ ps : List ByteArray, ((a < s.size → parts s.data.toList = []) ∧ (¬ a < s.size → ps.map (·.data.toList) = parts s.data.toList)) ∧ (lo ≤ ps.length ∧ ps.length ≤ hi ∧ ∀ p ∈ ps, p.size ≤ 1000) ∧ OwnT (w.alloc (boxO Opr.zero)).heap.size wx v ps ∧ wx.heap[w.heap.size]? = some (boxO Opr.zero) ∧ Below (w.alloc (boxO Opr.zero)).heap.size (w.alloc (boxO Opr.zero)) wx
set_option maxHeartbeats 8000000 in
set_option maxRecDepth 100000 in
theorem readR_w (s : ByteArray) (hs : s.size ≤ 1000) (w : World) (h : 0 < s.size) (hc : s[0] = 119) (h1 : dgN s 1 ≠ 0) :
    Calls Tryd.prog 9 #[.string s] w (RdPost s.data.toList w) := by
  have A1 := dgN_le s 1
  have D1 : Hid (∀ w, Calls Tryd.prog 39 #[.string s, .int .i64 1] w fun e w' => e = .returned (.int .i64 (dgN s 1 : Nat)) ∧ w = w') := Lib.hid fun w => digits_any s 1 (by omega) (by omega) w
  have P1 := Lib.hid (parts_w s h hc h1)
  have HRL := Lib.hid (fun (p : ByteArray) (hp : p.size ≤ 1000) (w : World) => readR_any p w (by omega))
  generalize dgN s 1 = A at *
  have htl : s.toList = s.data.toList := ByteArray.toList_eq s
  have e2 : s.toList.isEmpty = false := by
    rw [htl, list_cons s h]; rfl
  have e1 : (s.toList == []) = false := by
    rw [htl, list_cons s h]; rfl
  clear htl
  have q1 : ((s[0].toNat : Int) != 119) = false := by rw [hc]; rfl
  have q3 : ((s[0].toNat : Int) == 114) = false := by rw [hc]; rfl
  have q4 : ((A : Int) == 0) = false := by rw [beq_eq_false_iff_ne]; omega
  have b1 : 1 + (A : Int) ≤ (s.size : Int) := by omega
  clear hc
  go_enter Tryd.func9, Tryd.ntmps9
  go_upto_if 40 with (go_at_call 39; refine (D1.out _).mono ?_; rintro e w1 ⟨rfl, rfl⟩)
  have HE1 := ext_size s 1 (1 + A)
  have HPS : Hid (PS4 s w (1 + A) (.slice (some ⟨w.heap.size + 1, 0, none⟩) 1 1) 1 1 ((w.alloc (boxO Opr.zero)).alloc (.cells #[.string (s.extract 1 (1 + A))] 9))) := Lib.hid ⟨[s.extract 1 (1 + A)], ⟨fun e => P1.out.1 e, fun e => (P1.out.2 (by omega)).symm⟩, ⟨by simp, by simp, fun p hp => by
    simp only [List.mem_cons, List.not_mem_nil, or_false] at hp
    subst hp; omega⟩, ownT_one (s.extract 1 (1 + A)) (by simp) (heap_alloc_at _ _ _ (by simp)), heap_alloc_lt _ _ _ _ (heap_alloc_at _ _ _ rfl), (Below.refl _ _).alloc (by simp) _⟩
  clear HE1
  go_cut [4, 5] (fun s4 s5 wx => ∃ (a : Nat) (v : Value), s4 = .int .i64 (a : Int) ∧ v = s5 ∧ a ≤ 3010 ∧ Hid (PS4 s w a v 1 1 wx))
  case first =>
    go_wp2_with fail
    go_meet
    case rel => exact ⟨1 + A, _, by go_num, rfl, by omega, HPS⟩
  case rest =>
    obtain ⟨a, v, rfl, rfl, ha9, HPS⟩ := hcut
    clear P1 D1 A1 h1 q4 b1
    obtain ⟨wA, hwA⟩ : ∃ wA, wA = wc := ⟨_, rfl⟩
    subst hwA
    obtain ⟨ps, hpp, ⟨hlo, hhi, hps⟩, ho, hbx, hb⟩ := HPS.out
    have HK0 : Hid (∀ X, Below wA.heap.size wA X → X.heap[w.heap.size]? = some (boxO Opr.zero) ∧ Below w.heap.size w X) := Lib.hid fun X hX => ⟨(hX.block _ (heap_lt hbx)).trans hbx, (((Below.refl _ _).alloc (Nat.le_refl _) _).trans (hb.mono (by simp))).trans (hX.mono (by have := hb.size; simp at this; omega))⟩
    have HPE : Hid (∀ w', Below w.heap.size w w' → a < s.size → RdPost s.data.toList w (.returned (.tuple #[.agg #[.bool false, .int .i64 0, .int .i64 0, .int .i64 0], .int .i64 5])) w') := Lib.hid fun w' hb h => rd_form (hpp.1 h) hb
    by_cases ha : a < s.size
    · clear hpp hlo hhi hps ho hbx hb HPS
      go_wp2_with (refine wpList_store_opr rfl (.tmp 2) (.tmp 109) rfl w.heap.size Opr.zero Opr.zero rfl rfl (HK0.out _ (Below.refl _ _)).1 ?_; intro w4 hst; obtain ⟨_, ⟨x0, x1, x2, x3⟩, _⟩ := cellsO hst.2.2.2.2.1; have HB4 := Lib.hid (hst.below (HK0.out _ (Below.refl _ _)).2 (Nat.le_refl _)); clear hst)
      refine bodyPost_ret (v := .tuple #[.agg #[.bool false, .int .i64 0, .int .i64 0, .int .i64 0], .int .i64 5]) (by simp [results, Tryd.results9, go_sem, x0, x1, x2, x3, Opr.zero]) rfl (HPE.out _ HB4.out ha)
    have hpe := hpp.2 ha
    obtain ⟨n, hn⟩ : ∃ n, n = ps.length := ⟨_, rfl⟩
    have HC : Hid (∃ p c, v = .slice p n c ∧ ∀ X, Below wA.heap.size wA X → ∀ k, k < n → ∃ g o, p = some ⟨g, o, none⟩ ∧ X.cell? ⟨g, o + k, none⟩ = some (.string (ps.getD k .empty))) := Lib.hid (by
      obtain ⟨p, c, hv, _, hk⟩ := (ho.ints (by omega)).open_
      refine ⟨p, c, by rw [hn]; exact hv, fun X hX k hkn => ?_⟩
      obtain ⟨g, o, hp, _, hg, hcc⟩ := hk k (by omega)
      exact ⟨g, o, hp, (hX.cell (p := ⟨g, o + k, none⟩) hg).trans hcc⟩)
    have hget : ∀ k, (parts s.data.toList).getD k [] = (ps.getD k .empty).data.toList := fun k => by
      rw [← hpe, List.getD_eq_getElem?_getD, List.getD_eq_getElem?_getD, List.getElem?_map]
      cases ps[k]? <;> rfl
    have hlen : (parts s.data.toList).length = n := by rw [← hpe, List.length_map, hn]
    have hne : parts s.data.toList ≠ [] := fun e => by rw [e] at hlen; simp at hlen; omega
    have HRD : Hid (∀ k, k < n → ∀ w, Calls Tryd.prog 40 #[.string (ps.getD k .empty)] w fun e w' => e = .returned (.tuple #[.int .i64 (readL (ps.getD k .empty).data.toList).1, .int .i64 (readL (ps.getD k .empty).data.toList).2]) ∧ w = w') := Lib.hid fun k hk w => HRL.out _ (by
      have : k < ps.length := by omega
      rw [List.getD_eq_getElem?_getD, List.getElem?_eq_getElem this]
      exact hps _ (List.getElem_mem _)) w
    have HER : Hid (∀ k (e : Int) w', k < n → (∀ j, j < k → (readL (ps.getD j .empty).data.toList).2 = 0) → (readL (ps.getD k .empty).data.toList).2 = e → e ≠ 0 → Below w.heap.size w w' → RdPost s.data.toList w (.returned (.tuple #[.agg #[.bool false, .int .i64 0, .int .i64 0, .int .i64 0], .int .i64 e])) w') := Lib.hid fun k e w' hk hj h he hb => by
      unfold RdPost
      rw [readO_num hne (nums_err _ k e (by omega) (fun j hjk => by rw [hget]; exact hj j hjk) (by rw [hget]; exact h) he) he]
      exact ⟨rfl, hb⟩
    have HNO : Hid ((∀ j, j < n → (readL (ps.getD j .empty).data.toList).2 = 0) → nums (parts s.data.toList) = (ps.map (fun p => (readL p.data.toList).1), 0)) := Lib.hid fun hj => by
      rw [nums_ok _ (fun j hjl => by rw [hget]; exact hj j (by omega)), ← hpe, List.map_map]
      rfl
    have HTK : Hid (∀ k, k < n → (ps.take (k + 1)).map (fun p => (readL p.data.toList).1) = (ps.take k).map (fun p => (readL p.data.toList).1) ++ [(readL (ps.getD k .empty).data.toList).1]) := Lib.hid fun k hk => by
      have h1 : k < ps.length := by omega
      rw [List.take_add_one, List.map_append, List.getD_eq_getElem?_getD, List.getElem?_eq_getElem h1]
      rfl
    have HTN : Hid (ps.take n = ps) := Lib.hid (by rw [hn]; exact List.take_length)
    have hb1 : ((a : Int) < (s.size : Int)) = False := by simp; omega
    have hn3 : n ≤ 1 := by omega
    have hn0 : 1 ≤ n := by omega
    have HNE := Lib.hid hne
    have HLEN := Lib.hid hlen
    have hna : ¬ (a : Int) < (s.size : Int) := by omega
    obtain ⟨p, c, rfl, hcell⟩ := HC.out
    have HCL := Lib.hid hcell
    have HPSN : Hid (n = ps.length) := Lib.hid hn
    clear hb1 hcell HC hget hlen hne hpe hpp hlo hhi hps ho hbx hb hn HPS HPE ha HRL
    go_wp2_with fail
    go_loopw [7, 112] (fun s7 s112 wr => ∃ (k : Nat) (v7 : Value), s112 = .int .i64 (k : Int) ∧ v7 = s7 ∧ k ≤ n ∧ Hid (OwnI wA.heap.size wr v7 ((ps.take k).map (fun p => (readL p.data.toList).1))) ∧ Hid (∀ j, j < k → (readL (ps.getD j .empty).data.toList).2 = 0) ∧ Hid (Below wA.heap.size wA wr)) (fun _ s112 _ => n - (RowKit.intOf s112).toNat)
    case atStart => exact ⟨0, _, rfl, rfl, Nat.zero_le _, Lib.hid (OwnI.nil _ _), Lib.hid fun j hj => absurd hj (by omega), Lib.hid (Below.refl _ _)⟩
    case round =>
      obtain ⟨k, v7, rfl, rfl, hk, HO, HJ, HB⟩ := hrel
      have HKr : Hid (∀ X, Below wr.heap.size wr X → X.heap[w.heap.size]? = some (boxO Opr.zero) ∧ Below w.heap.size w X) := Lib.hid fun X hX => HK0.out X (HB.out.trans (hX.mono HB.out.size))
      by_cases hlt : k < n
      · obtain ⟨g, o, rfl, hc⟩ := HCL.out wr HB.out k hlt
        have HRk := Lib.hid (HRD.out k hlt)
        have HEk := Lib.hid (fun e w' => HER.out k e w' hlt HJ.out)
        have HTk := Lib.hid (HTK.out k hlt)
        have HJk : Hid ((readL (ps.getD k .empty).data.toList).2 = 0 → ∀ j, j < k + 1 → (readL (ps.getD j .empty).data.toList).2 = 0) := Lib.hid fun h j hj => by
          by_cases e : j = k
          · rw [e]; exact h
          · exact HJ.out j (by omega)
        have hlk : ((ps.take k).map (fun p => (readL p.data.toList).1)).length ≤ 3 := by rw [List.length_map, List.length_take]; omega
        generalize ps.getD k .empty = q at hc HRk HEk HTk HJk
        generalize (readL q.data.toList).1 = z at HRk HTk
        generalize (readL q.data.toList).2 = e at HRk HEk HJk
        have hki : (k : Int) < (n : Int) := by omega
        by_cases he : e = 0
        · subst he
          have HJ2 := Lib.hid (HJk.out rfl)
          generalize (ps.take k).map (fun p => (readL p.data.toList).1) = ns at HO HTk hlk
          clear HEk HJk HJ HER HNO HTK HTN HRD HPSN
          go_wp2_with (first | (go_at_call 40; refine (HRk.out _).mono ?_; rintro e w1 ⟨rfl, rfl⟩) | (at_builtin; refine append_ints rfl (.tmp 125) (.tmp 127) rfl (B := wA.heap.size) (by have := HB.out.size; simp; omega) (OwnI.lay HO.out rfl _) rfl (int_lit z _) (fun n c e => by cases e) rfl (by simp; omega) ?_; intro v2 w2 ho hg _; have HO2 := Lib.hid ho; have HB2 := Lib.hid (appI_below (HB.out.alloc HB.out.size _) (OwnI.lay HO.out rfl _) hg); clear ho hg))
          go_roundw
          case rel => exact ⟨k + 1, _, by go_num, rfl, by omega, Lib.hid (by rw [HTk.out]; exact HO2.out), HJ2, HB2⟩
          case measure => simp [RowKit.intOf]; omega
        · have heb : (e != 0) = true := by rw [bne_iff_ne]; exact he
          have HP4 : Hid (∀ w', Below w.heap.size w w' → RdPost s.data.toList w (.returned (.tuple #[.agg #[.bool false, .int .i64 0, .int .i64 0, .int .i64 0], .int .i64 e])) w') := Lib.hid fun w' hb => HEk.out e w' rfl he hb
          clear HEk HJk HTk HJ HO HER HNO HTK HTN HRD he HPSN
          go_wp2_with (first | (go_at_call 40; refine (HRk.out _).mono ?_; rintro e w1 ⟨rfl, rfl⟩) | (refine wpList_store_opr rfl (.tmp 2) (.tmp 123) rfl w.heap.size Opr.zero Opr.zero rfl rfl (HKr.out _ (Below.refl _ _)).1 ?_; intro w4 hst; obtain ⟨_, ⟨x0, x1, x2, x3⟩, _⟩ := cellsO hst.2.2.2.2.1; have HB4 := Lib.hid (hst.below (HKr.out _ (Below.refl _ _)).2 (Nat.le_refl _)); clear hst))
          refine bodyPost_ret (v := .tuple #[.agg #[.bool false, .int .i64 0, .int .i64 0, .int .i64 0], .int .i64 e]) (by simp [results, Tryd.results9, go_sem, x0, x1, x2, x3, Opr.zero]) rfl (HP4.out _ HB4.out)
      · obtain rfl : k = n := by omega
        have HN := Lib.hid (HNO.out HJ.out)
        have HO7 : Hid (OwnI wA.heap.size wr v7 (ps.map (fun p => (readL p.data.toList).1))) := Lib.hid (by have := HO.out; rw [HTN.out] at this; exact this)
        have hki : ¬ (k : Int) < (k : Int) := by omega
        clear HCL HRD HER HNO HTK HTN HJ HO hlt
        obtain rfl : k = 1 := by omega
        obtain ⟨p1, rfl⟩ : ∃ p1, ps = [p1] := by
          have h9 := HPSN.out
          match ps, h9 with
          | [a0], _ => exact ⟨a0, rfl⟩
        simp only [List.map_cons, List.map_nil] at HN HO7
        generalize (readL p1.data.toList).1 = y1 at HN HO7
        obtain ⟨g7, c7, rfl, hg7, d0⟩ := own_cells1 HO7.out
        clear HPSN HO7
        have HRT : Hid (∀ w, Calls Tryd.prog 10 #[.agg #[.bool false, .int .i64 y1, .int .i64 0, .int .i64 0]] w fun e w' => e = .returned (.bool (rightO ⟨false, y1, 0, 0⟩)) ∧ Below w.heap.size w w') := Lib.hid fun w => rightR_any ⟨false, y1, 0, 0⟩ w
        go_wp2_with fail
        go_region
        all_goals
          cases hR : rightO ⟨false, y1, 0, 0⟩
          · have HP5 : Hid (∀ w', Below w.heap.size w w' → RdPost s.data.toList w (.returned (.tuple #[.agg #[.bool false, .int .i64 0, .int .i64 0, .int .i64 0], .int .i64 1])) w') := Lib.hid fun w' hb => by
              unfold RdPost
              rw [readO_rng HNE.out (by rw [HN.out]) (by rw [HN.out]; simp [opOf]) (by rw [HN.out]; exact hR)]
              exact ⟨rfl, hb⟩
            rw [hR] at HRT
            clear hR HNE HLEN HN
            go_wp2_with (first | (go_at_call 10; refine (HRT.out _).mono ?_; rintro e w5 ⟨rfl, hb5⟩; have HK5 : Hid (∀ X, Below w5.heap.size w5 X → X.heap[w.heap.size]? = some (boxO Opr.zero) ∧ Below w.heap.size w X) := Lib.hid fun X hX => HKr.out X ((by go_grown : Below wr.heap.size wr _).trans ((hb5.trans (hX.mono hb5.size)).mono (by simp))); clear hb5) | (refine wpList_store_opr rfl (.tmp 2) (.tmp 161) rfl w.heap.size Opr.zero Opr.zero rfl rfl (HK5.out _ (Below.refl _ _)).1 ?_; intro w4 hst; obtain ⟨_, ⟨x0, x1, x2, x3⟩, _⟩ := cellsO hst.2.2.2.2.1; have HB4 := Lib.hid (hst.below (HK5.out _ (Below.refl _ _)).2 (Nat.le_refl _)); clear hst))
            refine bodyPost_ret (v := .tuple #[.agg #[.bool false, .int .i64 0, .int .i64 0, .int .i64 0], .int .i64 1]) (by simp [results, Tryd.results9, go_sem, x0, x1, x2, x3, Opr.zero]) rfl (HP5.out _ HB4.out)
          · have HP5 : Hid (∀ w', Below w.heap.size w w' → RdPost s.data.toList w (.returned (.tuple #[.agg #[.bool false, .int .i64 y1, .int .i64 0, .int .i64 0], .int .i64 0])) w') := Lib.hid fun w' hb => by
              unfold RdPost
              rw [readO_yes HNE.out (by rw [HN.out]) (by rw [HN.out]; simp [opOf]) (by rw [HN.out]; exact hR), HN.out]
              exact ⟨rfl, hb⟩
            rw [hR] at HRT
            clear hR HNE HLEN HN
            go_wp2_with (first | (go_at_call 10; refine (HRT.out _).mono ?_; rintro e w5 ⟨rfl, hb5⟩; have HK5 : Hid (∀ X, Below w5.heap.size w5 X → X.heap[w.heap.size]? = some (boxO Opr.zero) ∧ Below w.heap.size w X) := Lib.hid fun X hX => HKr.out X ((by go_grown : Below wr.heap.size wr _).trans ((hb5.trans (hX.mono hb5.size)).mono (by simp))); have HX5 : Hid (w5.heap[wr.heap.size]? = some (boxO ⟨false, y1, 0, 0⟩)) := Lib.hid ((hb5.block wr.heap.size (by simp)).trans (heap_alloc_at wr (boxO ⟨false, y1, 0, 0⟩) _ rfl)); obtain ⟨_, ⟨z0, z1, z2, z3⟩, _⟩ := cellsO HX5.out; clear hb5) | (refine wpList_store_opr rfl (.tmp 2) (.tmp 162) rfl w.heap.size ⟨false, y1, 0, 0⟩ Opr.zero rfl rfl (HK5.out _ (Below.refl _ _)).1 ?_; intro w4 hst; obtain ⟨_, ⟨x0, x1, x2, x3⟩, _⟩ := cellsO hst.2.2.2.2.1; have HB4 := Lib.hid (hst.below (HK5.out _ (Below.refl _ _)).2 (Nat.le_refl _)); clear hst))
            refine bodyPost_ret (v := .tuple #[.agg #[.bool false, .int .i64 y1, .int .i64 0, .int .i64 0], .int .i64 0]) (by simp [results, Tryd.results9, go_sem, x0, x1, x2, x3]) rfl (HP5.out _ HB4.out)
end Go.Proofs.YtjgmncpapcmleaaDoor.Op
