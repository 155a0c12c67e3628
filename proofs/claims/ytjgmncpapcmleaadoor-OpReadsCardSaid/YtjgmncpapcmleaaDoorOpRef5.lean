/-
  Contract of the document's own answer on operations' texts: Read, of two numbers and three. Not a statement of the seat.
-/
import Derived.Test.YtjgmncpapcmleaaDoorOpRef4
namespace Go.Proofs.YtjgmncpapcmleaaDoor.Op
open Go.ChangeShapes Go.WideShapes Go.ChangeAt Go.RowKit Base Nu F Go.Lib Lst
set_option maxHeartbeats 8000000 in
set_option maxRecDepth 100000 in
theorem readR_r (s : ByteArray) (hs : s.size ≤ 1000) (w : World) (h : 0 < s.size) (hc : s[0] = 114) (h1 : dgN s 1 ≠ 0) :
    Calls Tryd.prog 9 #[.string s] w (RdPost s.data.toList w) := by
  have A1 := dgN_le s 1
  have D1 : Hid (∀ w, Calls Tryd.prog 39 #[.string s, .int .i64 1] w fun e w' => e = .returned (.int .i64 (dgN s 1 : Nat)) ∧ w = w') := Lib.hid fun w => digits_any s 1 (by omega) (by omega) w
  have D2 : Hid (∀ w, Calls Tryd.prog 39 #[.string s, .int .i64 (1 + (dgN s 1 : Nat) + 1)] w fun e w' => e = .returned (.int .i64 (dgN s (1 + dgN s 1 + 1) : Nat)) ∧ w = w') := Lib.hid fun w => by
    have := digits_any s (1 + dgN s 1 + 1) (by omega) (by omega) w
    simpa using this
  have A2 := dgN_le s (1 + dgN s 1 + 1)
  have D3 : Hid (1 + dgN s 1 + 1 + dgN s (1 + dgN s 1 + 1) < s.size → ∀ w, Calls Tryd.prog 39 #[.string s, .int .i64 (1 + (dgN s 1 : Nat) + 1 + (dgN s (1 + dgN s 1 + 1) : Nat) + 1)] w fun e w' => e = .returned (.int .i64 (dgN s (1 + dgN s 1 + 1 + dgN s (1 + dgN s 1 + 1) + 1) : Nat)) ∧ w = w') := Lib.hid fun hx w => by
    have := digits_any s (1 + dgN s 1 + 1 + dgN s (1 + dgN s 1 + 1) + 1) (by omega) (by omega) w
    simpa using this
  have A3 := dgN_le s (1 + dgN s 1 + 1 + dgN s (1 + dgN s 1 + 1) + 1)
  have P0 := Lib.hid (parts_r0 s h hc)
  have P1 := Lib.hid (parts_r1 s h hc h1)
  have P2 := Lib.hid (parts_r2 s h hc _ rfl)
  have P3 := Lib.hid (fun h2 h3 => parts_r3 s h hc h1 h2 h3 _ rfl)
  have HRL := Lib.hid (fun (p : ByteArray) (hp : p.size ≤ 1000) (w : World) => readR_any p w (by omega))
  generalize dgN s (1 + dgN s 1 + 1 + dgN s (1 + dgN s 1 + 1) + 1) = C at *
  generalize dgN s (1 + dgN s 1 + 1) = B at *
  generalize dgN s 1 = A at *
  have HP : Hid (parts s.data.toList = [] → ∀ w', Below w.heap.size w w' → RdPost s.data.toList w (.returned (.tuple #[.agg #[.bool false, .int .i64 0, .int .i64 0, .int .i64 0], .int .i64 5])) w') := Lib.hid fun hf w' hb => rd_form hf hb
  have htl : s.toList = s.data.toList := ByteArray.toList_eq s
  have e2 : s.toList.isEmpty = false := by
    rw [htl, list_cons s h]; rfl
  have e1 : (s.toList == []) = false := by
    rw [htl, list_cons s h]; rfl
  clear htl
  have q1 : ((s[0].toNat : Int) != 119) = true := by rw [hc]; rfl
  have q2 : ((s[0].toNat : Int) != 114) = false := by rw [hc]; rfl
  have q3 : ((s[0].toNat : Int) == 114) = true := by rw [hc]; rfl
  have q4 : ((A : Int) == 0) = false := by rw [beq_eq_false_iff_ne]; omega
  have b1 : 1 + (A : Int) ≤ (s.size : Int) := by omega
  clear hc
  go_enter Tryd.func9, Tryd.ntmps9
  go_upto_if 40 with (go_at_call 39; refine (D1.out _).mono ?_; rintro e w1 ⟨rfl, rfl⟩)
  go_cut [4, 5] (fun s4 s5 wx => ∃ (a : Nat) (v : Value), s4 = .int .i64 (a : Int) ∧ v = s5 ∧ a ≤ 3010 ∧ Hid (PS4 s w a v 2 3 wx))
  case first =>
    by_cases g1 : 1 + A < s.size
    case neg =>
      have t1 : decide ((s.size : Int) ≤ 1 + (A : Int)) = true := decide_eq_true (by omega)
      have HF := Lib.hid (P0.out fun e => g1 e.1.1)
      clear g1 P0 P1 P2 P3
      go_wp2_with (go_at_call 39; refine (D2.out _).mono ?_; rintro e w1 ⟨rfl, rfl⟩)
      refine bodyPost_ret (v := .tuple #[.agg #[.bool false, .int .i64 0, .int .i64 0, .int .i64 0], .int .i64 5]) (by simp [results, Tryd.results9, go_sem]) rfl (HP.out HF.out _ (by go_grown))
    by_cases g2 : s[1 + A] = 64
    case neg =>
      have t1 : decide ((s.size : Int) ≤ 1 + (A : Int)) = false := decide_eq_false (by omega)
      have t2 : ((s[1 + A].toNat : Int) != 64) = true := by rw [bne_iff_ne]; exact fun e => g2 (UInt8.toNat_inj.1 (by rw [show (64 : UInt8).toNat = 64 from rfl]; omega))
      have HF := Lib.hid (P0.out fun e => g2 e.1.2)
      clear g2 P0 P1 P2 P3
      go_wp2_with (go_at_call 39; refine (D2.out _).mono ?_; rintro e w1 ⟨rfl, rfl⟩)
      refine bodyPost_ret (v := .tuple #[.agg #[.bool false, .int .i64 0, .int .i64 0, .int .i64 0], .int .i64 5]) (by simp [results, Tryd.results9, go_sem]) rfl (HP.out HF.out _ (by go_grown))
    have t1 : decide ((s.size : Int) ≤ 1 + (A : Int)) = false := decide_eq_false (by omega)
    have t2 : ((s[1 + A].toNat : Int) != 64) = false := by rw [g2]; rfl
    by_cases g3 : B = 0
    · have t3 : (1 + (A : Int) + 1 + (B : Int) == 1 + (A : Int) + 1) = true := by rw [beq_iff_eq]; omega
      have HF := Lib.hid (P0.out fun e => e.2 g3)
      clear g3 P0 P1 P2 P3 g2
      go_wp2_with (go_at_call 39; refine (D2.out _).mono ?_; rintro e w1 ⟨rfl, rfl⟩)
      refine bodyPost_ret (v := .tuple #[.agg #[.bool false, .int .i64 0, .int .i64 0, .int .i64 0], .int .i64 5]) (by simp [results, Tryd.results9, go_sem]) rfl (HP.out HF.out _ (by go_grown))
    have t3 : (1 + (A : Int) + 1 + (B : Int) == 1 + (A : Int) + 1) = false := by rw [beq_eq_false_iff_ne]; omega
    have b2 : 1 + (A : Int) + 1 + (B : Int) ≤ (s.size : Int) := by omega
    have hp1 := Lib.hid (P1.out ⟨g1, g2⟩ g3)
    have hp3 := Lib.hid (P3.out ⟨g1, g2⟩ g3)
    clear P1 P3 g2
    go_upto_if 77 with (first | (go_at_call 39; refine (D2.out _).mono ?_; rintro e w1 ⟨rfl, rfl⟩) | (at_builtin; refine append_txts rfl (.tmp 65) (.tmp 71) rfl (B := (w.alloc (boxO Opr.zero)).heap.size) (by simp) (ownT_one (s.extract 1 (1 + A)) (by simp) (heap_alloc_lt _ _ _ _ (heap_alloc_at _ _ _ (by simp)))) rfl (txt_at (s.extract (1 + A + 1) (1 + A + 1 + B)) (heap_alloc_at _ _ _ (by simp))) (fun n c e => by cases e) rfl (by simp) ?_; intro v2 w2 ho hg _; have HO := Lib.hid ho; have HB := Lib.hid (appT_below (w0 := (w.alloc (boxO Opr.zero))) (((Below.refl _ _).alloc (Nat.le_refl _) _).alloc (by simp) _) (ownT_one (s.extract 1 (1 + A)) (by simp) (heap_alloc_lt _ _ _ _ (heap_alloc_at _ _ _ (by simp)))) hg); clear ho hg))
    have HBX : Hid (w2.heap[w.heap.size]? = some (boxO Opr.zero)) := Lib.hid ((HB.out.block w.heap.size (by simp)).trans (heap_alloc_at _ _ _ rfl))
    have HBW : Hid (Below w.heap.size w w2) := Lib.hid (((Below.refl _ _).alloc (Nat.le_refl _) _).trans (HB.out.mono (by simp)))
    by_cases g4 : 1 + A + 1 + B < s.size
    case neg =>
      have b3 : ¬ 1 + (A : Int) + 1 + (B : Int) < (s.size : Int) := by omega
      have HQ := Lib.hid (hp1.out (by omega))
      have HE1 := ext_size s 1 (1 + A)
      have HE2 := ext_size s (1 + A + 1) (1 + A + 1 + B)
      have HPS : Hid (PS4 s w (1 + A + 1 + B) v2 2 3 w2) := Lib.hid ⟨[s.extract 1 (1 + A), s.extract (1 + A + 1) (1 + A + 1 + B)], ⟨fun e => absurd e g4, fun _ => HQ.out.symm⟩, ⟨by simp, by simp, fun p hp => by
        simp only [List.mem_cons, List.not_mem_nil, or_false] at hp
        rcases hp with rfl | rfl <;> omega⟩, HO.out, HBX.out, HB.out⟩
      clear HE1 HE2 HQ hp1 hp3 P2 HO HB HBX HBW g4
      go_wp2_with fail
      go_meet
      case rel => exact ⟨1 + A + 1 + B, v2, by go_num, rfl, by omega, HPS⟩
    have HP2 := Lib.hid (P2.out g4)
    have HP3 := Lib.hid (hp3.out g4)
    have HD3 := Lib.hid (D3.out g4)
    clear P2 hp1 hp3 D3
    by_cases g5 : s[1 + A + 1 + B] = 46
    case neg =>
      have t4 : ((s[1 + A + 1 + B].toNat : Int) != 46) = true := by rw [bne_iff_ne]; exact fun e => g5 (UInt8.toNat_inj.1 (by rw [show (46 : UInt8).toNat = 46 from rfl]; omega))
      have HF := Lib.hid (HP2.out fun e => g5 e.1)
      clear HP2 HP3 g5
      go_wp2_with (first | (go_at_call 39; refine (HD3.out _).mono ?_; rintro e w1 ⟨rfl, rfl⟩) | (refine wpList_store_opr rfl (.tmp 2) (.tmp 95) rfl w.heap.size Opr.zero Opr.zero rfl rfl HBX.out ?_; intro w4 hst; obtain ⟨_, ⟨x0, x1, x2, x3⟩, _⟩ := cellsO hst.2.2.2.2.1; have HB4 := Lib.hid (hst.below HBW.out (Nat.le_refl _)); clear hst))
      refine bodyPost_ret (v := .tuple #[.agg #[.bool false, .int .i64 0, .int .i64 0, .int .i64 0], .int .i64 5]) (by simp [results, Tryd.results9, go_sem, x0, x1, x2, x3, Opr.zero]) rfl (HP.out HF.out _ HB4.out)
    have t4 : ((s[1 + A + 1 + B].toNat : Int) != 46) = false := by rw [g5]; rfl
    by_cases g6 : C = 0
    · have t5 : (1 + (A : Int) + 1 + (B : Int) + 1 + (C : Int) == 1 + (A : Int) + 1 + (B : Int) + 1) = true := by rw [beq_iff_eq]; omega
      have HF := Lib.hid (HP2.out fun e => e.2 g6)
      clear HP2 HP3 g5 g6
      go_wp2_with (first | (go_at_call 39; refine (HD3.out _).mono ?_; rintro e w1 ⟨rfl, rfl⟩) | (refine wpList_store_opr rfl (.tmp 2) (.tmp 95) rfl w.heap.size Opr.zero Opr.zero rfl rfl HBX.out ?_; intro w4 hst; obtain ⟨_, ⟨x0, x1, x2, x3⟩, _⟩ := cellsO hst.2.2.2.2.1; have HB4 := Lib.hid (hst.below HBW.out (Nat.le_refl _)); clear hst))
      refine bodyPost_ret (v := .tuple #[.agg #[.bool false, .int .i64 0, .int .i64 0, .int .i64 0], .int .i64 5]) (by simp [results, Tryd.results9, go_sem, x0, x1, x2, x3, Opr.zero]) rfl (HP.out HF.out _ HB4.out)
    have t5 : (1 + (A : Int) + 1 + (B : Int) + 1 + (C : Int) == 1 + (A : Int) + 1 + (B : Int) + 1) = false := by rw [beq_eq_false_iff_ne]; omega
    have b3 : 1 + (A : Int) + 1 + (B : Int) + 1 + (C : Int) ≤ (s.size : Int) := by omega
    have HQ := Lib.hid (HP3.out g5 g6)
    clear HP2 HP3 g5 g6
    go_wp2_with (first | (go_at_call 39; refine (HD3.out _).mono ?_; rintro e w1 ⟨rfl, rfl⟩) | (at_builtin; refine append_txts rfl (.tmp 96) (.tmp 102) rfl (B := (w.alloc (boxO Opr.zero)).heap.size) (by have := HB.out.size; simp at this ⊢; omega) (OwnT.lay HO.out rfl _) rfl (txt_lit (s.extract (1 + A + 1 + B + 1) (1 + A + 1 + B + 1 + C)) _) (fun n c e => by cases e) rfl (by simp) ?_; intro v3 w3 ho hg _; have HO3 := Lib.hid ho; have HB3 := Lib.hid (appT_below (w0 := (w.alloc (boxO Opr.zero))) (HB.out.alloc HB.out.size _) (OwnT.lay HO.out rfl _) hg); clear ho hg))
    have HE1 := ext_size s 1 (1 + A)
    have HE2 := ext_size s (1 + A + 1) (1 + A + 1 + B)
    have HE3 := ext_size s (1 + A + 1 + B + 1) (1 + A + 1 + B + 1 + C)
    have HPS : Hid (PS4 s w (1 + A + 1 + B + 1 + C) v3 2 3 w3) := Lib.hid ⟨[s.extract 1 (1 + A), s.extract (1 + A + 1) (1 + A + 1 + B), s.extract (1 + A + 1 + B + 1) (1 + A + 1 + B + 1 + C)], ⟨fun e => HQ.out.1 e, fun e => (HQ.out.2 (by omega)).symm⟩, ⟨by simp, by simp, fun p hp => by
      simp only [List.mem_cons, List.not_mem_nil, or_false] at hp
      rcases hp with rfl | rfl | rfl <;> omega⟩, HO3.out, (HB3.out.block w.heap.size (by simp)).trans (heap_alloc_at _ _ _ rfl), HB3.out⟩
    clear HE1 HE2 HE3 HQ HO HB HBX HBW HO3 HB3
    go_meet
    case rel => exact ⟨1 + A + 1 + B + 1 + C, v3, by go_num, rfl, by omega, HPS⟩
  case rest =>
    obtain ⟨a, v, rfl, rfl, ha9, HPS⟩ := hcut
    clear P0 P1 P2 P3 D1 D2 D3 A1 A2 A3 h1 q4 b1
    obtain ⟨wA, hwA⟩ : ∃ wA, wA = wc := ⟨_, rfl⟩
    subst hwA
    obtain ⟨ps, hpp, ⟨hlo, hhi, hps⟩, ho, hbx, hb⟩ := HPS.out
    have HK0 : Hid (∀ X, Below wA.heap.size wA X → X.heap[w.heap.size]? = some (boxO Opr.zero) ∧ Below w.heap.size w X) := Lib.hid fun X hX => ⟨(hX.block _ (heap_lt hbx)).trans hbx, (((Below.refl _ _).alloc (Nat.le_refl _) _).trans (hb.mono (by simp))).trans (hX.mono (by have := hb.size; simp at this; omega))⟩
    have HPE : Hid (∀ w', Below w.heap.size w w' → a < s.size → RdPost s.data.toList w (.returned (.tuple #[.agg #[.bool false, .int .i64 0, .int .i64 0, .int .i64 0], .int .i64 5])) w') := Lib.hid fun w' hb h => rd_form (hpp.1 h) hb
    by_cases ha : a < s.size
    · clear hpp hlo hhi hps ho hbx hb HPS
      go_wp2_with (refine wpList_store_opr rfl (.tmp 2) (.tmp 109) rfl w.heap.size Opr.zero Opr.zero rfl rfl (HK0.out _ (Below.refl _ _)).1 ?_; intro w4 hst; obtain ⟨_, ⟨x0, x1, x2, x3⟩, _⟩ := cellsO hst.2.2.2.2.1; have HB4 := Lib.hid (hst.below (HK0.out _ (Below.refl _ _)).2 (Nat.le_refl _)); clear hst)
      refine bodyPost_ret (v := .tuple #[.agg #[.bool false, .int .i64 0, .int .i64 0, .int .i64 0], .int .i64 5]) (by simp [results, Tryd.results9, go_sem, x0, x1, x2, x3, Opr.zero]) rfl (HPE.out _ HB4.out ha)
    have hpe := hpp.2 ha
    obtain ⟨n, hn⟩ : ∃ n, n = ps.length := ⟨_, rfl⟩
    have HC : Hid (∃ p c, v = .slice p n c ∧ ∀ X, Below wA.heap.size wA X → ∀ k, k < n → ∃ g o, p = some ⟨g, o, none⟩ ∧ X.cell? ⟨g, o + k, none⟩ = some (.string (ps.getD k .empty))) := Lib.hid (by
      obtain ⟨p, c, hv, _, hk⟩ := (ho.ints (by omega)).open_
      refine ⟨p, c, by rw [hn]; exact hv, fun X hX k hkn => ?_⟩
      obtain ⟨g, o, hp, _, hg, hcc⟩ := hk k (by omega)
      exact ⟨g, o, hp, (hX.cell (p := ⟨g, o + k, none⟩) hg).trans hcc⟩)
    have hget : ∀ k, (parts s.data.toList).getD k [] = (ps.getD k .empty).data.toList := fun k => by
      rw [← hpe, List.getD_eq_getElem?_getD, List.getD_eq_getElem?_getD, List.getElem?_map]
      cases ps[k]? <;> rfl
    have hlen : (parts s.data.toList).length = n := by rw [← hpe, List.length_map, hn]
    have hne : parts s.data.toList ≠ [] := fun e => by rw [e] at hlen; simp at hlen; omega
    have HRD : Hid (∀ k, k < n → ∀ w, Calls Tryd.prog 40 #[.string (ps.getD k .empty)] w fun e w' => e = .returned (.tuple #[.int .i64 (readL (ps.getD k .empty).data.toList).1, .int .i64 (readL (ps.getD k .empty).data.toList).2]) ∧ w = w') := Lib.hid fun k hk w => HRL.out _ (by
      have : k < ps.length := by omega
      rw [List.getD_eq_getElem?_getD, List.getElem?_eq_getElem this]
      exact hps _ (List.getElem_mem _)) w
    have HER : Hid (∀ k (e : Int) w', k < n → (∀ j, j < k → (readL (ps.getD j .empty).data.toList).2 = 0) → (readL (ps.getD k .empty).data.toList).2 = e → e ≠ 0 → Below w.heap.size w w' → RdPost s.data.toList w (.returned (.tuple #[.agg #[.bool false, .int .i64 0, .int .i64 0, .int .i64 0], .int .i64 e])) w') := Lib.hid fun k e w' hk hj h he hb => by
      unfold RdPost
      rw [readO_num hne (nums_err _ k e (by omega) (fun j hjk => by rw [hget]; exact hj j hjk) (by rw [hget]; exact h) he) he]
      exact ⟨rfl, hb⟩
    have HNO : Hid ((∀ j, j < n → (readL (ps.getD j .empty).data.toList).2 = 0) → nums (parts s.data.toList) = (ps.map (fun p => (readL p.data.toList).1), 0)) := Lib.hid fun hj => by
      rw [nums_ok _ (fun j hjl => by rw [hget]; exact hj j (by omega)), ← hpe, List.map_map]
      rfl
    have HTK : Hid (∀ k, k < n → (ps.take (k + 1)).map (fun p => (readL p.data.toList).1) = (ps.take k).map (fun p => (readL p.data.toList).1) ++ [(readL (ps.getD k .empty).data.toList).1]) := Lib.hid fun k hk => by
      have h1 : k < ps.length := by omega
      rw [List.take_add_one, List.map_append, List.getD_eq_getElem?_getD, List.getElem?_eq_getElem h1]
      rfl
    have HTN : Hid (ps.take n = ps) := Lib.hid (by rw [hn]; exact List.take_length)
    have hb1 : ((a : Int) < (s.size : Int)) = False := by simp; omega
    have hn3 : n ≤ 3 := by omega
    have hn0 : 2 ≤ n := by omega
    have HNE := Lib.hid hne
    have HLEN := Lib.hid hlen
    have hna : ¬ (a : Int) < (s.size : Int) := by omega
    obtain ⟨p, c, rfl, hcell⟩ := HC.out
    have HCL := Lib.hid hcell
    have HPSN : Hid (n = ps.length) := Lib.hid hn
    clear hb1 hcell HC hget hlen hne hpe hpp hlo hhi hps ho hbx hb hn HPS HPE ha HRL
    go_wp2_with fail
    go_loopw [7, 112] (fun s7 s112 wr => ∃ (k : Nat) (v7 : Value), s112 = .int .i64 (k : Int) ∧ v7 = s7 ∧ k ≤ n ∧ Hid (OwnI wA.heap.size wr v7 ((ps.take k).map (fun p => (readL p.data.toList).1))) ∧ Hid (∀ j, j < k → (readL (ps.getD j .empty).data.toList).2 = 0) ∧ Hid (Below wA.heap.size wA wr)) (fun _ s112 _ => n - (RowKit.intOf s112).toNat)
    case atStart => exact ⟨0, _, rfl, rfl, Nat.zero_le _, Lib.hid (OwnI.nil _ _), Lib.hid fun j hj => absurd hj (by omega), Lib.hid (Below.refl _ _)⟩
    case round =>
      obtain ⟨k, v7, rfl, rfl, hk, HO, HJ, HB⟩ := hrel
      have HKr : Hid (∀ X, Below wr.heap.size wr X → X.heap[w.heap.size]? = some (boxO Opr.zero) ∧ Below w.heap.size w X) := Lib.hid fun X hX => HK0.out X (HB.out.trans (hX.mono HB.out.size))
      by_cases hlt : k < n
      · obtain ⟨g, o, rfl, hc⟩ := HCL.out wr HB.out k hlt
        have HRk := Lib.hid (HRD.out k hlt)
        have HEk := Lib.hid (fun e w' => HER.out k e w' hlt HJ.out)
        have HTk := Lib.hid (HTK.out k hlt)
        have HJk : Hid ((readL (ps.getD k .empty).data.toList).2 = 0 → ∀ j, j < k + 1 → (readL (ps.getD j .empty).data.toList).2 = 0) := Lib.hid fun h j hj => by
          by_cases e : j = k
          · rw [e]; exact h
          · exact HJ.out j (by omega)
        have hlk : ((ps.take k).map (fun p => (readL p.data.toList).1)).length ≤ 3 := by rw [List.length_map, List.length_take]; omega
        generalize ps.getD k .empty = q at hc HRk HEk HTk HJk
        generalize (readL q.data.toList).1 = z at HRk HTk
        generalize (readL q.data.toList).2 = e at HRk HEk HJk
        have hki : (k : Int) < (n : Int) := by omega
        by_cases he : e = 0
        · subst he
          have HJ2 := Lib.hid (HJk.out rfl)
          generalize (ps.take k).map (fun p => (readL p.data.toList).1) = ns at HO HTk hlk
          clear HEk HJk HJ HER HNO HTK HTN HRD HPSN
          go_wp2_with (first | (go_at_call 40; refine (HRk.out _).mono ?_; rintro e w1 ⟨rfl, rfl⟩) | (at_builtin; refine append_ints rfl (.tmp 125) (.tmp 127) rfl (B := wA.heap.size) (by have := HB.out.size; simp; omega) (OwnI.lay HO.out rfl _) rfl (int_lit z _) (fun n c e => by cases e) rfl (by simp; omega) ?_; intro v2 w2 ho hg _; have HO2 := Lib.hid ho; have HB2 := Lib.hid (appI_below (HB.out.alloc HB.out.size _) (OwnI.lay HO.out rfl _) hg); clear ho hg))
          go_roundw
          case rel => exact ⟨k + 1, _, by go_num, rfl, by omega, Lib.hid (by rw [HTk.out]; exact HO2.out), HJ2, HB2⟩
          case measure => simp [RowKit.intOf]; omega
        · have heb : (e != 0) = true := by rw [bne_iff_ne]; exact he
          have HP4 : Hid (∀ w', Below w.heap.size w w' → RdPost s.data.toList w (.returned (.tuple #[.agg #[.bool false, .int .i64 0, .int .i64 0, .int .i64 0], .int .i64 e])) w') := Lib.hid fun w' hb => HEk.out e w' rfl he hb
          clear HEk HJk HTk HJ HO HER HNO HTK HTN HRD he HPSN
          go_wp2_with (first | (go_at_call 40; refine (HRk.out _).mono ?_; rintro e w1 ⟨rfl, rfl⟩) | (refine wpList_store_opr rfl (.tmp 2) (.tmp 123) rfl w.heap.size Opr.zero Opr.zero rfl rfl (HKr.out _ (Below.refl _ _)).1 ?_; intro w4 hst; obtain ⟨_, ⟨x0, x1, x2, x3⟩, _⟩ := cellsO hst.2.2.2.2.1; have HB4 := Lib.hid (hst.below (HKr.out _ (Below.refl _ _)).2 (Nat.le_refl _)); clear hst))
          refine bodyPost_ret (v := .tuple #[.agg #[.bool false, .int .i64 0, .int .i64 0, .int .i64 0], .int .i64 e]) (by simp [results, Tryd.results9, go_sem, x0, x1, x2, x3, Opr.zero]) rfl (HP4.out _ HB4.out)
      · obtain rfl : k = n := by omega
        have HN := Lib.hid (HNO.out HJ.out)
        have HO7 : Hid (OwnI wA.heap.size wr v7 (ps.map (fun p => (readL p.data.toList).1))) := Lib.hid (by have := HO.out; rw [HTN.out] at this; exact this)
        have hki : ¬ (k : Int) < (k : Int) := by omega
        clear HCL HRD HER HNO HTK HTN HJ HO hlt
        rcases (show k = 2 ∨ k = 3 by omega) with rfl | rfl
        · obtain ⟨p1, p2, rfl⟩ : ∃ p1 p2, ps = [p1, p2] := by
            have h9 := HPSN.out
            match ps, h9 with
            | [a0, a1], _ => exact ⟨a0, a1, rfl⟩
          simp only [List.map_cons, List.map_nil] at HN HO7
          generalize (readL p1.data.toList).1 = y1 at HN HO7
          generalize (readL p2.data.toList).1 = y2 at HN HO7
          obtain ⟨g7, c7, rfl, hg7, d0, d1⟩ := own_cells2 HO7.out
          clear HPSN HO7
          have HRT : Hid (∀ w, Calls Tryd.prog 10 #[.agg #[.bool true, .int .i64 y1, .int .i64 y2, .int .i64 0]] w fun e w' => e = .returned (.bool (rightO ⟨true, y1, y2, 0⟩)) ∧ Below w.heap.size w w') := Lib.hid fun w => rightR_any ⟨true, y1, y2, 0⟩ w
          go_wp2_with fail
          go_region
          all_goals
            by_cases h0 : ¬ y2 = 0
            · have h0b : (y2 == 0) = false := by rw [beq_eq_false_iff_ne]; exact h0
              have HP5 : Hid (∀ w', Below w.heap.size w w' → RdPost s.data.toList w (.returned (.tuple #[.agg #[.bool false, .int .i64 0, .int .i64 0, .int .i64 0], .int .i64 5])) w') := Lib.hid fun w' hb => by
                unfold RdPost
                rw [readO_dot HNE.out (by rw [HN.out]) (by rw [HN.out, HLEN.out]; simp [opOf, h0])]
                exact ⟨rfl, hb⟩
              clear h0 HNE HLEN HN HRT
              go_wp2_with (refine wpList_store_opr rfl (.tmp 2) (.tmp 157) rfl w.heap.size Opr.zero Opr.zero rfl rfl (HKr.out _ (by go_grown)).1 ?_; intro w4 hst; obtain ⟨_, ⟨x0, x1, x2, x3⟩, _⟩ := cellsO hst.2.2.2.2.1; have HB4 := Lib.hid (hst.below (HKr.out _ (by go_grown)).2 (Nat.le_refl _)); clear hst)
              refine bodyPost_ret (v := .tuple #[.agg #[.bool false, .int .i64 0, .int .i64 0, .int .i64 0], .int .i64 5]) (by simp [results, Tryd.results9, go_sem, x0, x1, x2, x3, Opr.zero]) rfl (HP5.out _ HB4.out)
            have h0b : (y2 == 0) = true := by rw [beq_iff_eq]; omega
            cases hR : rightO ⟨true, y1, y2, 0⟩
            · have HP5 : Hid (∀ w', Below w.heap.size w w' → RdPost s.data.toList w (.returned (.tuple #[.agg #[.bool false, .int .i64 0, .int .i64 0, .int .i64 0], .int .i64 1])) w') := Lib.hid fun w' hb => by
                unfold RdPost
                rw [readO_rng HNE.out (by rw [HN.out]) (by rw [HN.out, HLEN.out]; simp [opOf]; omega) (by rw [HN.out]; exact hR)]
                exact ⟨rfl, hb⟩
              rw [hR] at HRT
              clear hR HNE HLEN HN
              go_wp2_with (first | (go_at_call 10; refine (HRT.out _).mono ?_; rintro e w5 ⟨rfl, hb5⟩; have HK5 : Hid (∀ X, Below w5.heap.size w5 X → X.heap[w.heap.size]? = some (boxO Opr.zero) ∧ Below w.heap.size w X) := Lib.hid fun X hX => HKr.out X ((by go_grown : Below wr.heap.size wr _).trans ((hb5.trans (hX.mono hb5.size)).mono (by simp))); clear hb5) | (refine wpList_store_opr rfl (.tmp 2) (.tmp 161) rfl w.heap.size Opr.zero Opr.zero rfl rfl (HK5.out _ (Below.refl _ _)).1 ?_; intro w4 hst; obtain ⟨_, ⟨x0, x1, x2, x3⟩, _⟩ := cellsO hst.2.2.2.2.1; have HB4 := Lib.hid (hst.below (HK5.out _ (Below.refl _ _)).2 (Nat.le_refl _)); clear hst))
              refine bodyPost_ret (v := .tuple #[.agg #[.bool false, .int .i64 0, .int .i64 0, .int .i64 0], .int .i64 1]) (by simp [results, Tryd.results9, go_sem, x0, x1, x2, x3, Opr.zero]) rfl (HP5.out _ HB4.out)
            · have HP5 : Hid (∀ w', Below w.heap.size w w' → RdPost s.data.toList w (.returned (.tuple #[.agg #[.bool true, .int .i64 y1, .int .i64 y2, .int .i64 0], .int .i64 0])) w') := Lib.hid fun w' hb => by
                unfold RdPost
                rw [readO_yes HNE.out (by rw [HN.out]) (by rw [HN.out, HLEN.out]; simp [opOf]; omega) (by rw [HN.out]; exact hR), HN.out]
                exact ⟨rfl, hb⟩
              rw [hR] at HRT
              clear hR HNE HLEN HN
              go_wp2_with (first | (go_at_call 10; refine (HRT.out _).mono ?_; rintro e w5 ⟨rfl, hb5⟩; have HK5 : Hid (∀ X, Below w5.heap.size w5 X → X.heap[w.heap.size]? = some (boxO Opr.zero) ∧ Below w.heap.size w X) := Lib.hid fun X hX => HKr.out X ((by go_grown : Below wr.heap.size wr _).trans ((hb5.trans (hX.mono hb5.size)).mono (by simp))); have HX5 : Hid (w5.heap[wr.heap.size]? = some (boxO ⟨true, y1, y2, 0⟩)) := Lib.hid ((hb5.block wr.heap.size (by simp)).trans (heap_alloc_at wr (boxO ⟨true, y1, y2, 0⟩) _ rfl)); obtain ⟨_, ⟨z0, z1, z2, z3⟩, _⟩ := cellsO HX5.out; clear hb5) | (refine wpList_store_opr rfl (.tmp 2) (.tmp 162) rfl w.heap.size ⟨true, y1, y2, 0⟩ Opr.zero rfl rfl (HK5.out _ (Below.refl _ _)).1 ?_; intro w4 hst; obtain ⟨_, ⟨x0, x1, x2, x3⟩, _⟩ := cellsO hst.2.2.2.2.1; have HB4 := Lib.hid (hst.below (HK5.out _ (Below.refl _ _)).2 (Nat.le_refl _)); clear hst))
              refine bodyPost_ret (v := .tuple #[.agg #[.bool true, .int .i64 y1, .int .i64 y2, .int .i64 0], .int .i64 0]) (by simp [results, Tryd.results9, go_sem, x0, x1, x2, x3]) rfl (HP5.out _ HB4.out)
        · obtain ⟨p1, p2, p3, rfl⟩ : ∃ p1 p2 p3, ps = [p1, p2, p3] := by
            have h9 := HPSN.out
            match ps, h9 with
            | [a0, a1, a2], _ => exact ⟨a0, a1, a2, rfl⟩
          simp only [List.map_cons, List.map_nil] at HN HO7
          generalize (readL p1.data.toList).1 = y1 at HN HO7
          generalize (readL p2.data.toList).1 = y2 at HN HO7
          generalize (readL p3.data.toList).1 = y3 at HN HO7
          obtain ⟨g7, c7, rfl, hg7, d0, d1, d2⟩ := own_cells3 HO7.out
          clear HPSN HO7
          have HRT : Hid (∀ w, Calls Tryd.prog 10 #[.agg #[.bool true, .int .i64 y1, .int .i64 y2, .int .i64 y3]] w fun e w' => e = .returned (.bool (rightO ⟨true, y1, y2, y3⟩)) ∧ Below w.heap.size w w') := Lib.hid fun w => rightR_any ⟨true, y1, y2, y3⟩ w
          go_wp2_with fail
          go_region
          all_goals
            by_cases h0 : y2 = 0
            · have h0b : (y2 == 0) = true := by rw [beq_iff_eq]; exact h0
              have HP5 : Hid (∀ w', Below w.heap.size w w' → RdPost s.data.toList w (.returned (.tuple #[.agg #[.bool false, .int .i64 0, .int .i64 0, .int .i64 0], .int .i64 5])) w') := Lib.hid fun w' hb => by
                unfold RdPost
                rw [readO_dot HNE.out (by rw [HN.out]) (by rw [HN.out, HLEN.out]; simp [opOf, h0])]
                exact ⟨rfl, hb⟩
              clear h0 HNE HLEN HN HRT
              go_wp2_with (refine wpList_store_opr rfl (.tmp 2) (.tmp 157) rfl w.heap.size Opr.zero Opr.zero rfl rfl (HKr.out _ (by go_grown)).1 ?_; intro w4 hst; obtain ⟨_, ⟨x0, x1, x2, x3⟩, _⟩ := cellsO hst.2.2.2.2.1; have HB4 := Lib.hid (hst.below (HKr.out _ (by go_grown)).2 (Nat.le_refl _)); clear hst)
              refine bodyPost_ret (v := .tuple #[.agg #[.bool false, .int .i64 0, .int .i64 0, .int .i64 0], .int .i64 5]) (by simp [results, Tryd.results9, go_sem, x0, x1, x2, x3, Opr.zero]) rfl (HP5.out _ HB4.out)
            have h0b : (y2 == 0) = false := by rw [beq_eq_false_iff_ne]; exact h0
            cases hR : rightO ⟨true, y1, y2, y3⟩
            · have HP5 : Hid (∀ w', Below w.heap.size w w' → RdPost s.data.toList w (.returned (.tuple #[.agg #[.bool false, .int .i64 0, .int .i64 0, .int .i64 0], .int .i64 1])) w') := Lib.hid fun w' hb => by
                unfold RdPost
                rw [readO_rng HNE.out (by rw [HN.out]) (by rw [HN.out, HLEN.out]; simp [opOf]; omega) (by rw [HN.out]; exact hR)]
                exact ⟨rfl, hb⟩
              rw [hR] at HRT
              clear hR HNE HLEN HN
              go_wp2_with (first | (go_at_call 10; refine (HRT.out _).mono ?_; rintro e w5 ⟨rfl, hb5⟩; have HK5 : Hid (∀ X, Below w5.heap.size w5 X → X.heap[w.heap.size]? = some (boxO Opr.zero) ∧ Below w.heap.size w X) := Lib.hid fun X hX => HKr.out X ((by go_grown : Below wr.heap.size wr _).trans ((hb5.trans (hX.mono hb5.size)).mono (by simp))); clear hb5) | (refine wpList_store_opr rfl (.tmp 2) (.tmp 161) rfl w.heap.size Opr.zero Opr.zero rfl rfl (HK5.out _ (Below.refl _ _)).1 ?_; intro w4 hst; obtain ⟨_, ⟨x0, x1, x2, x3⟩, _⟩ := cellsO hst.2.2.2.2.1; have HB4 := Lib.hid (hst.below (HK5.out _ (Below.refl _ _)).2 (Nat.le_refl _)); clear hst))
              refine bodyPost_ret (v := .tuple #[.agg #[.bool false, .int .i64 0, .int .i64 0, .int .i64 0], .int .i64 1]) (by simp [results, Tryd.results9, go_sem, x0, x1, x2, x3, Opr.zero]) rfl (HP5.out _ HB4.out)
            · have HP5 : Hid (∀ w', Below w.heap.size w w' → RdPost s.data.toList w (.returned (.tuple #[.agg #[.bool true, .int .i64 y1, .int .i64 y2, .int .i64 y3], .int .i64 0])) w') := Lib.hid fun w' hb => by
                unfold RdPost
                rw [readO_yes HNE.out (by rw [HN.out]) (by rw [HN.out, HLEN.out]; simp [opOf]; omega) (by rw [HN.out]; exact hR), HN.out]
                exact ⟨rfl, hb⟩
              rw [hR] at HRT
              clear hR HNE HLEN HN
              go_wp2_with (first | (go_at_call 10; refine (HRT.out _).mono ?_; rintro e w5 ⟨rfl, hb5⟩; have HK5 : Hid (∀ X, Below w5.heap.size w5 X → X.heap[w.heap.size]? = some (boxO Opr.zero) ∧ Below w.heap.size w X) := Lib.hid fun X hX => HKr.out X ((by go_grown : Below wr.heap.size wr _).trans ((hb5.trans (hX.mono hb5.size)).mono (by simp))); have HX5 : Hid (w5.heap[wr.heap.size]? = some (boxO ⟨true, y1, y2, y3⟩)) := Lib.hid ((hb5.block wr.heap.size (by simp)).trans (heap_alloc_at wr (boxO ⟨true, y1, y2, y3⟩) _ rfl)); obtain ⟨_, ⟨z0, z1, z2, z3⟩, _⟩ := cellsO HX5.out; clear hb5) | (refine wpList_store_opr rfl (.tmp 2) (.tmp 162) rfl w.heap.size ⟨true, y1, y2, y3⟩ Opr.zero rfl rfl (HK5.out _ (Below.refl _ _)).1 ?_; intro w4 hst; obtain ⟨_, ⟨x0, x1, x2, x3⟩, _⟩ := cellsO hst.2.2.2.2.1; have HB4 := Lib.hid (hst.below (HK5.out _ (Below.refl _ _)).2 (Nat.le_refl _)); clear hst))
              refine bodyPost_ret (v := .tuple #[.agg #[.bool true, .int .i64 y1, .int .i64 y2, .int .i64 y3], .int .i64 0]) (by simp [results, Tryd.results9, go_sem, x0, x1, x2, x3]) rfl (HP5.out _ HB4.out)
theorem readRef_any (s : ByteArray) (hs : s.size ≤ 1000) (w : World) : Calls Tryd.prog 9 #[.string s] w (RdPost s.data.toList w) := by
  by_cases h : 0 < s.size
  case neg => exact readR_f0 s hs w (by omega)
  by_cases h1 : s[0] = 119
  · by_cases h2 : dgN s 1 = 0
    · exact readR_f2w s hs w h h1 h2
    · exact readR_w s hs w h h1 h2
  by_cases h3 : s[0] = 114
  · by_cases h2 : dgN s 1 = 0
    · exact readR_f2r s hs w h h3 h2
    · exact readR_r s hs w h h3 h2
  exact readR_f1 s hs w h h1 h3
end Go.Proofs.YtjgmncpapcmleaaDoor.Op
