/-
  Contract of the program's reading of operations: parse. Not a statement of the seat.
-/
import Derived.Test.YtaogofjnpnheeaaGreatDoorOpSp3
import Derived.Test.YtaogofjnpnheeaaGreatDoorOpNums
import Derived.Test.YtaogofjnpnheeaaGreatDoorHead
import Derived.Test.YtaogofjnpnheeaaGreatDoorFrame
import Derived.Test.YtaogofjnpnheeaaGreatDoorNum1
namespace Go.Proofs.YtaogofjnpnheeaaGreatDoor.Op
open Go.ChangeShapes Go.WideShapes Go.ChangeAt Go.RowKit Base Nu F Go.Lib Lst
/-- What a text says, right or not; whether it has a dot; why it says nothing. -/
def parO (l : List UInt8) : Opr × Bool × Int :=
  if parts l = [] then (Opr.zero, false, 5)
  else if (nums (parts l)).2 ≠ 0 then (Opr.zero, false, (nums (parts l)).2)
  else (opOf (nums (parts l)).1, decide ((parts l).length = 3), 0)
def ParPost (l : List UInt8) (w : World) (e : Ending) (w' : World) : Prop :=
  e = .returned (.tuple #[.agg #[.bool (parO l).1.rd, .int .i64 (parO l).1.k, .int .i64 (parO l).1.t, .int .i64 (parO l).1.n], .bool (parO l).2.1, .int .i64 (parO l).2.2]) ∧ Below w.heap.size w w'
/-- The box of three numbers. -/
def arrO (a b c : Int) : Obj := .cells #[.int .i64 a, .int .i64 b, .int .i64 c] 78
theorem cellsA {w : World} {g : Nat} {a b c : Int} (h : w.heap[g]? = some (arrO a b c)) : g < w.heap.size ∧ (w.cell? ⟨g, 0, none⟩ = some (.int .i64 a) ∧ w.cell? ⟨g, 1, none⟩ = some (.int .i64 b) ∧ w.cell? ⟨g, 2, none⟩ = some (.int .i64 c)) ∧ w.frozen? ⟨g, 0, none⟩ = false ∧ w.frozen? ⟨g, 1, none⟩ = false ∧ w.frozen? ⟨g, 2, none⟩ = false := by
  refine ⟨heap_lt h, ?_⟩
  unfold arrO at h
  simp [World.cell?, World.frozen?, h]
theorem arr_set {w : World} {g : Nat} {a b c : Int} (h : w.heap[g]? = some (arrO a b c)) (x : Int) :
    (w.setCell ⟨g, 0, none⟩ (.int .i64 x)).heap[g]? = some (arrO x b c) ∧ (w.setCell ⟨g, 1, none⟩ (.int .i64 x)).heap[g]? = some (arrO a x c) ∧ (w.setCell ⟨g, 2, none⟩ (.int .i64 x)).heap[g]? = some (arrO a b x) := by
  unfold arrO at *
  refine ⟨?_, ?_, ?_⟩ <;> simp [World.setCell, Array.getElem?_modify, h]
/-- The numbers that are there after k. -/
def nm (ps : List ByteArray) (k i : Nat) : Int := if i < k then (readL (ps.getD i .empty).data.toList).1 else 0
theorem nm_lt (ps : List ByteArray) {k i : Nat} (h : i < k) : nm ps k i = (readL (ps.getD i .empty).data.toList).1 := if_pos h
theorem nm_ge (ps : List ByteArray) {k i : Nat} (h : k ≤ i) : nm ps k i = 0 := if_neg (by omega)
theorem frA {w w1 : World} {N : Nat} (h : Fr (fun g => g = N) w w1) (j : Nat) (v : Value) : Fr (fun g => g = N) w (w1.setCell ⟨N, j, none⟩ v) :=
  ⟨h.1, h.2.1, h.2.2.1, by have := h.size; simpa [World.setCell] using this, fun g hg hn => (Below.heap_setCell _ _ _ _ (show g ≠ N from hn)).trans (h.block hg hn)⟩
set_option maxHeartbeats 8000000 in
set_option maxRecDepth 100000 in
theorem parse_any (s : ByteArray) (hs : s.size ≤ 9223372036854775807) (w : World) : Calls Tryz.prog 24 #[.string s] w (ParPost s.data.toList w) := by
  have HS := Lib.hid (fun w => split_any s hs w)
  have hpn : parts s.data.toList = [] ∨ 1 ≤ (parts s.data.toList).length ∧ (parts s.data.toList).length ≤ 3 := by
    by_cases h : parts s.data.toList = []
    · exact .inl h
    · rcases parts_forms h with ⟨r, _, e⟩ | ⟨a, b, _, e⟩ | ⟨a, b, c, _, e⟩ <;> rw [e] <;> simp
  have hps : ∀ p ∈ (parts s.data.toList).map toB, p.size ≤ 9223372036854775807 := fun p hp => by
    obtain ⟨l, hl, rfl⟩ := List.mem_map.1 hp
    rw [toB_size]
    have hsz : s.data.toList.length = s.size := by simp
    by_cases h : parts s.data.toList = []
    · rw [h] at hl; cases hl
    · rcases parts_forms h with ⟨r, e1, e⟩ | ⟨a, b, e1, e⟩ | ⟨a, b, c, e1, e⟩ <;> rw [e] at hl <;> rw [e1] at hsz <;> simp at hl hsz <;> rcases hl with rfl | rfl | rfl <;> omega
  have HP0 : Hid (parts s.data.toList = [] → ∀ w', Below w.heap.size w w' → ParPost s.data.toList w (.returned (.tuple #[.agg #[.bool false, .int .i64 0, .int .i64 0, .int .i64 0], .bool false, .int .i64 5])) w') := Lib.hid fun h w' hb => by
    unfold ParPost parO
    rw [if_pos h]
    exact ⟨rfl, hb⟩
  go_enter Tryz.func24, Tryz.ntmps24
  go_wp2_with fail
  refine (HS.out _).mono ?_
  rintro e w2 ⟨v, rfl, ho, hb⟩
  have hbx : w2.heap[w.heap.size]? = some (boxO Opr.zero) := (hb.block w.heap.size (by simp)).trans (heap_alloc_at w (boxO Opr.zero) _ rfl)
  have hbw : Below w.heap.size w w2 := ((Below.refl _ _).alloc (Nat.le_refl _) _).trans (hb.mono (by simp))
  have HK0 : Hid (∀ X, Below w2.heap.size w2 X → X.heap[w.heap.size]? = some (boxO Opr.zero) ∧ Below w.heap.size w X) := Lib.hid fun X hX => ⟨(hX.block _ (heap_lt hbx)).trans hbx, hbw.trans (hX.mono hbw.size)⟩
  by_cases hp0 : parts s.data.toList = []
  · have HP5 := Lib.hid (HP0.out hp0)
    have HV : Hid (∃ p c, v = .slice p 0 c) := Lib.hid (by
      rw [hp0] at ho
      obtain ⟨p, c, h, _⟩ := (ho.ints (by simp)).open_
      exact ⟨p, c, h⟩)
    obtain ⟨p, c, rfl⟩ := HV.out
    clear HP0 hpn hps ho hb hbx hbw hp0 HS HV
    go_wp2_with (refine wpList_store_opr rfl (.tmp 2) (.tmp 14) rfl w.heap.size Opr.zero Opr.zero rfl rfl (HK0.out _ (Below.refl _ _)).1 ?_; intro w4 hst; obtain ⟨_, ⟨x0, x1, x2, x3⟩, _⟩ := cellsO hst.2.2.2.2.1; have HX4 := Lib.hid hst.2.2.2.2.1; have HB4 := Lib.hid (hst.below (HK0.out _ (Below.refl _ _)).2 (Nat.le_refl _)); clear hst)
    refine bodyPost_ret (v := .tuple #[.agg #[.bool false, .int .i64 0, .int .i64 0, .int .i64 0], .bool false, .int .i64 5]) (by simp [results, Tryz.results24, go_sem, x0, x1, x2, x3, Opr.zero]) rfl (HP5.out _ HB4.out)
  obtain ⟨ps, hpe⟩ : ∃ ps, ps = (parts s.data.toList).map toB := ⟨_, rfl⟩
  rw [← hpe] at ho hps
  obtain ⟨n, hn⟩ : ∃ n, n = ps.length := ⟨_, rfl⟩
  have hlen : (parts s.data.toList).length = n := by rw [hn, hpe, List.length_map]
  have hn1 : 1 ≤ n ∧ n ≤ 3 := by
    rcases hpn with h | h
    · exact absurd h hp0
    · rw [hlen] at h; exact h
  have hget : ∀ k, (parts s.data.toList).getD k [] = (ps.getD k .empty).data.toList := fun k => by
    rw [hpe, List.getD_eq_getElem?_getD, List.getD_eq_getElem?_getD, List.getElem?_map]
    cases (parts s.data.toList)[k]? <;> rfl
  have HC : Hid (∃ p c, v = .slice p n c ∧ ∀ X, Fr (fun g => g = w2.heap.size) w2 X → ∀ k, k < n → ∃ g o, p = some ⟨g, o, none⟩ ∧ X.cell? ⟨g, o + k, none⟩ = some (.string (ps.getD k .empty))) := Lib.hid (by
    obtain ⟨p, c, hv, _, hk⟩ := (ho.ints (by omega)).open_
    refine ⟨p, c, by rw [hn]; exact hv, fun X hX k hkn => ?_⟩
    obtain ⟨g, o, hp, _, hg, hcc⟩ := hk k (by omega)
    exact ⟨g, o, hp, (World.cell?_of_block (a := ⟨g, o + k, none⟩) (hX.block hg (fun e => by have e2 : g = w2.heap.size := e; omega))).trans hcc⟩)
  have HRD : Hid (∀ k, k < n → ∀ w, Calls Tryz.prog 34 #[.string (ps.getD k .empty)] w fun e w' => e = .returned (.tuple #[.int .i64 (readL (ps.getD k .empty).data.toList).1, .int .i64 (readL (ps.getD k .empty).data.toList).2]) ∧ w = w') := Lib.hid fun k hk w => read_any _ w (by
    have : k < ps.length := by omega
    rw [List.getD_eq_getElem?_getD, List.getElem?_eq_getElem this]
    exact hps _ (List.getElem_mem _))
  have HER : Hid (∀ k (e : Int) w', k < n → (∀ j, j < k → (readL (ps.getD j .empty).data.toList).2 = 0) → (readL (ps.getD k .empty).data.toList).2 = e → e ≠ 0 → Below w.heap.size w w' → ParPost s.data.toList w (.returned (.tuple #[.agg #[.bool false, .int .i64 0, .int .i64 0, .int .i64 0], .bool false, .int .i64 e])) w') := Lib.hid fun k e w' hk hj h he hb => by
    have h9 := nums_err (parts s.data.toList) k e (by omega) (fun j hjk => by rw [hget]; exact hj j hjk) (by rw [hget]; exact h) he
    unfold ParPost parO
    rw [if_neg hp0, h9, if_pos he]
    exact ⟨rfl, hb⟩
  have HOK : Hid ((∀ j, j < n → (readL (ps.getD j .empty).data.toList).2 = 0) → ∀ w', Below w.heap.size w w' → ParPost s.data.toList w (.returned (.tuple #[.agg #[.bool (decide (1 < n)), .int .i64 (nm ps n 0), .int .i64 (nm ps n 1), .int .i64 (nm ps n 2)], .bool (decide (n = 3)), .int .i64 0])) w') := Lib.hid fun hj w' hb => by
    have h9 := nums_ok (parts s.data.toList) (fun j hjl => by rw [hget]; exact hj j (by omega))
    have h8 : ∀ i, ((parts s.data.toList).map (fun p => (readL p).1)).getD i 0 = nm ps n i := fun i => by
      by_cases hi : i < n
      · rw [nm_lt ps hi, ← hget, List.getD_eq_getElem?_getD, List.getD_eq_getElem?_getD, List.getElem?_map, List.getElem?_eq_getElem (by omega)]
        rfl
      · rw [nm_ge ps (by omega), List.getD_eq_getElem?_getD, List.getElem?_eq_none (by rw [List.length_map]; omega)]
        rfl
    unfold ParPost parO
    rw [if_neg hp0, h9, if_neg (by simp), hlen]
    unfold opOf
    rw [h8, h8, h8, List.length_map, hlen]
    exact ⟨rfl, hb⟩
  have HNM : Hid (∀ k, k < n → ∀ i, i ≠ k → nm ps (k + 1) i = nm ps k i) := Lib.hid fun k _ i hi => by
    unfold nm
    by_cases h : i < k
    · rw [if_pos h, if_pos (by omega)]
    · rw [if_neg h, if_neg (by omega)]
  have HNK : Hid (∀ k, nm ps (k + 1) k = (readL (ps.getD k .empty).data.toList).1) := Lib.hid fun k => nm_lt ps (by omega)
  have HN0 : Hid (∀ i, nm ps 0 i = 0) := Lib.hid fun i => nm_ge ps (Nat.zero_le i)
  have HKF : Hid (∀ X Y, Fr (fun g => g = w2.heap.size) w2 X → Below X.heap.size X Y → Y.heap[w.heap.size]? = some (boxO Opr.zero) ∧ Below w.heap.size w Y) := Lib.hid fun X Y hX hY => ⟨(hY.block _ (Nat.lt_of_lt_of_le (heap_lt hbx) hX.size)).trans ((hX.block (heap_lt hbx) (by have := heap_lt hbx; omega)).trans hbx), hbw.trans ((hX.below (B := w.heap.size) (fun g hg => by rw [hg]; exact hbw.size) hbw.size).trans (hY.mono (Nat.le_trans hbw.size hX.size)))⟩
  obtain ⟨p, c, rfl, hcell⟩ := HC.out
  have HCL := Lib.hid hcell
  have hn2 := hn1.1
  have hn3 := hn1.2
  have hnz : ((n : Int) == 0) = false := by rw [beq_eq_false_iff_ne]; omega
  clear hcell HC hn1 hget hlen hpe hp0 hps hpn ho hb hbx hbw hn HS HP0 HK0
  go_wp2_with fail
  go_loopw [4, 7, 8, 17] (fun s4 _ _ s17 wr => ∃ k : Nat, s17 = .int .i64 (k : Int) ∧ s4 = .int .i64 0 ∧ k ≤ n ∧ Hid (∀ j, j < k → (readL (ps.getD j .empty).data.toList).2 = 0) ∧ Hid (Fr (fun g => g = w2.heap.size) w2 wr ∧ wr.heap[w2.heap.size]? = some (arrO (nm ps k 0) (nm ps k 1) (nm ps k 2)))) (fun _ _ _ s17 _ => n - (RowKit.intOf s17).toNat)
  case atStart => exact ⟨0, rfl, rfl, Nat.zero_le _, Lib.hid fun j hj => absurd hj (by omega), Lib.hid ⟨Fr.alloc (Fr.refl _ _) _, by rw [HN0.out, HN0.out, HN0.out]; exact heap_alloc_at w2 (arrO 0 0 0) _ rfl⟩⟩
  case round =>
    obtain ⟨k, rfl, rfl, hk, HJ, HF⟩ := hrel
    by_cases hlt : k < n
    · obtain ⟨g, o, rfl, hc⟩ := HCL.out wr HF.out.1 k hlt
      have HRk := Lib.hid (HRD.out k hlt)
      have HEk := Lib.hid (fun e w' => HER.out k e w' hlt HJ.out)
      have HJk : Hid ((readL (ps.getD k .empty).data.toList).2 = 0 → ∀ j, j < k + 1 → (readL (ps.getD j .empty).data.toList).2 = 0) := Lib.hid fun h j hj => by
        by_cases e : j = k
        · rw [e]; exact h
        · exact HJ.out j (by omega)
      have HNk := Lib.hid (HNM.out k hlt)
      have HNkk := Lib.hid (HNK.out k)
      generalize ps.getD k .empty = q at hc HRk HEk HNkk HJk
      generalize (readL q.data.toList).1 = z at HRk HNkk
      generalize (readL q.data.toList).2 = e at HRk HEk HJk
      obtain ⟨hN, ⟨a0, a1, a2⟩, f0, f1, f2⟩ := cellsA HF.out.2
      have hki : (k : Int) < (n : Int) := by omega
      by_cases he : e = 0
      · subst he
        have HJ2 := Lib.hid (HJk.out rfl)
        clear HEk HJk HJ HER HOK HRD HNM HNK HN0
        rcases (show k = 0 ∨ k = 1 ∨ k = 2 by omega) with rfl | rfl | rfl
        · rw [Nat.add_zero] at hc
          rw [show ((0 : Nat) : Int) = 0 from rfl]
          have hki0 : (0 : Int) < (n : Int) := by omega
          have HA : Hid (Fr (fun g => g = w2.heap.size) w2 (wr.setCell ⟨w2.heap.size, 0, none⟩ (.int .i64 z)) ∧ (wr.setCell ⟨w2.heap.size, 0, none⟩ (.int .i64 z)).heap[w2.heap.size]? = some (arrO (nm ps (0 + 1) 0) (nm ps (0 + 1) 1) (nm ps (0 + 1) 2))) := Lib.hid ⟨frA HF.out.1 0 _, by
            rw [HNkk.out, HNk.out 1 (by omega), HNk.out 2 (by omega)]
            exact (arr_set HF.out.2 z).1⟩
          clear HNk HNkk
          go_wp2_with (go_at_call 34; refine (HRk.out _).mono ?_; rintro e w1 ⟨rfl, rfl⟩)
          go_roundw
          case rel => exact ⟨0 + 1, by go_num, rfl, by omega, HJ2, HA⟩
          case measure => simp [RowKit.intOf]; omega
        · rw [show ((1 : Nat) : Int) = 1 from rfl]
          have hki0 : (1 : Int) < (n : Int) := by omega
          have HA : Hid (Fr (fun g => g = w2.heap.size) w2 (wr.setCell ⟨w2.heap.size, 1, none⟩ (.int .i64 z)) ∧ (wr.setCell ⟨w2.heap.size, 1, none⟩ (.int .i64 z)).heap[w2.heap.size]? = some (arrO (nm ps (1 + 1) 0) (nm ps (1 + 1) 1) (nm ps (1 + 1) 2))) := Lib.hid ⟨frA HF.out.1 1 _, by
            rw [HNk.out 0 (by omega), HNkk.out, HNk.out 2 (by omega)]
            exact (arr_set HF.out.2 z).2.1⟩
          clear HNk HNkk
          go_wp2_with (go_at_call 34; refine (HRk.out _).mono ?_; rintro e w1 ⟨rfl, rfl⟩)
          go_roundw
          case rel => exact ⟨1 + 1, by go_num, rfl, by omega, HJ2, HA⟩
          case measure => simp [RowKit.intOf]; omega
        · rw [show ((2 : Nat) : Int) = 2 from rfl]
          have hki0 : (2 : Int) < (n : Int) := by omega
          have HA : Hid (Fr (fun g => g = w2.heap.size) w2 (wr.setCell ⟨w2.heap.size, 2, none⟩ (.int .i64 z)) ∧ (wr.setCell ⟨w2.heap.size, 2, none⟩ (.int .i64 z)).heap[w2.heap.size]? = some (arrO (nm ps (2 + 1) 0) (nm ps (2 + 1) 1) (nm ps (2 + 1) 2))) := Lib.hid ⟨frA HF.out.1 2 _, by
            rw [HNk.out 0 (by omega), HNk.out 1 (by omega), HNkk.out]
            exact (arr_set HF.out.2 z).2.2⟩
          clear HNk HNkk
          go_wp2_with (go_at_call 34; refine (HRk.out _).mono ?_; rintro e w1 ⟨rfl, rfl⟩)
          go_roundw
          case rel => exact ⟨2 + 1, by go_num, rfl, by omega, HJ2, HA⟩
          case measure => simp [RowKit.intOf]; omega
      · have heb : (e != 0) = true := by rw [bne_iff_ne]; exact he
        have HP4 : Hid (∀ w', Below w.heap.size w w' → ParPost s.data.toList w (.returned (.tuple #[.agg #[.bool false, .int .i64 0, .int .i64 0, .int .i64 0], .bool false, .int .i64 e])) w') := Lib.hid fun w' hb => HEk.out e w' rfl he hb
        clear HEk HJk HJ HER HOK HRD HNM HNK HN0 HNk HNkk he
        rcases (show k = 0 ∨ k = 1 ∨ k = 2 by omega) with rfl | rfl | rfl
        · rw [Nat.add_zero] at hc
          rw [show ((0 : Nat) : Int) = 0 from rfl]
          have hki0 : (0 : Int) < (n : Int) := by omega
          have HA : Hid (∀ Y, Below (wr.setCell ⟨w2.heap.size, 0, none⟩ (.int .i64 z)).heap.size (wr.setCell ⟨w2.heap.size, 0, none⟩ (.int .i64 z)) Y → Y.heap[w.heap.size]? = some (boxO Opr.zero) ∧ Below w.heap.size w Y) := Lib.hid fun Y hY => HKF.out _ Y (frA HF.out.1 0 _) hY
          go_wp2_with (first | (go_at_call 34; refine (HRk.out _).mono ?_; rintro e w1 ⟨rfl, rfl⟩) | (refine wpList_store_opr rfl (.tmp 2) (.tmp 31) rfl w.heap.size Opr.zero Opr.zero rfl rfl (HA.out _ (Below.refl _ _)).1 ?_; intro w4 hst; obtain ⟨_, ⟨x0, x1, x2, x3⟩, _⟩ := cellsO hst.2.2.2.2.1; have HX4 := Lib.hid hst.2.2.2.2.1; have HB4 := Lib.hid (hst.below (HA.out _ (Below.refl _ _)).2 (Nat.le_refl _)); clear hst))
          refine bodyPost_ret (v := .tuple #[.agg #[.bool false, .int .i64 0, .int .i64 0, .int .i64 0], .bool false, .int .i64 e]) (by simp [results, Tryz.results24, go_sem, x0, x1, x2, x3, Opr.zero]) rfl (HP4.out _ HB4.out)
        · rw [show ((1 : Nat) : Int) = 1 from rfl]
          have hki0 : (1 : Int) < (n : Int) := by omega
          have HA : Hid (∀ Y, Below (wr.setCell ⟨w2.heap.size, 1, none⟩ (.int .i64 z)).heap.size (wr.setCell ⟨w2.heap.size, 1, none⟩ (.int .i64 z)) Y → Y.heap[w.heap.size]? = some (boxO Opr.zero) ∧ Below w.heap.size w Y) := Lib.hid fun Y hY => HKF.out _ Y (frA HF.out.1 1 _) hY
          go_wp2_with (first | (go_at_call 34; refine (HRk.out _).mono ?_; rintro e w1 ⟨rfl, rfl⟩) | (refine wpList_store_opr rfl (.tmp 2) (.tmp 31) rfl w.heap.size Opr.zero Opr.zero rfl rfl (HA.out _ (Below.refl _ _)).1 ?_; intro w4 hst; obtain ⟨_, ⟨x0, x1, x2, x3⟩, _⟩ := cellsO hst.2.2.2.2.1; have HX4 := Lib.hid hst.2.2.2.2.1; have HB4 := Lib.hid (hst.below (HA.out _ (Below.refl _ _)).2 (Nat.le_refl _)); clear hst))
          refine bodyPost_ret (v := .tuple #[.agg #[.bool false, .int .i64 0, .int .i64 0, .int .i64 0], .bool false, .int .i64 e]) (by simp [results, Tryz.results24, go_sem, x0, x1, x2, x3, Opr.zero]) rfl (HP4.out _ HB4.out)
        · rw [show ((2 : Nat) : Int) = 2 from rfl]
          have hki0 : (2 : Int) < (n : Int) := by omega
          have HA : Hid (∀ Y, Below (wr.setCell ⟨w2.heap.size, 2, none⟩ (.int .i64 z)).heap.size (wr.setCell ⟨w2.heap.size, 2, none⟩ (.int .i64 z)) Y → Y.heap[w.heap.size]? = some (boxO Opr.zero) ∧ Below w.heap.size w Y) := Lib.hid fun Y hY => HKF.out _ Y (frA HF.out.1 2 _) hY
          go_wp2_with (first | (go_at_call 34; refine (HRk.out _).mono ?_; rintro e w1 ⟨rfl, rfl⟩) | (refine wpList_store_opr rfl (.tmp 2) (.tmp 31) rfl w.heap.size Opr.zero Opr.zero rfl rfl (HA.out _ (Below.refl _ _)).1 ?_; intro w4 hst; obtain ⟨_, ⟨x0, x1, x2, x3⟩, _⟩ := cellsO hst.2.2.2.2.1; have HX4 := Lib.hid hst.2.2.2.2.1; have HB4 := Lib.hid (hst.below (HA.out _ (Below.refl _ _)).2 (Nat.le_refl _)); clear hst))
          refine bodyPost_ret (v := .tuple #[.agg #[.bool false, .int .i64 0, .int .i64 0, .int .i64 0], .bool false, .int .i64 e]) (by simp [results, Tryz.results24, go_sem, x0, x1, x2, x3, Opr.zero]) rfl (HP4.out _ HB4.out)
    · obtain rfl : k = n := by omega
      have HP6 := Lib.hid (HOK.out HJ.out)
      have hki : ¬ (k : Int) < (k : Int) := by omega
      have hK := HKF.out wr wr HF.out.1 (Below.refl _ _)
      have HKr := Lib.hid hK
      obtain ⟨hN, ⟨a0, a1, a2⟩, f0, f1, f2⟩ := cellsA HF.out.2
      clear HCL HRD HER HOK HNM HNK HN0 HJ hlt hK HF
      generalize nm ps k 0 = y1 at *
      generalize nm ps k 1 = y2 at *
      generalize nm ps k 2 = y3 at *
      rcases (show k = 1 ∨ k = 2 ∨ k = 3 by omega) with rfl | rfl | rfl
      · go_wp2_with (first
            | (refine wpList_store_opr rfl (.tmp 2) (.tmp 43) rfl w.heap.size ⟨false, y1, y2, y3⟩ Opr.zero rfl rfl (HKr.out).1 ?_; intro w4 hst; obtain ⟨_, ⟨x0, x1, x2, x3⟩, _⟩ := cellsO hst.2.2.2.2.1; have HX4 := Lib.hid hst.2.2.2.2.1; have HB4 := Lib.hid (hst.below (HKr.out).2 (Nat.le_refl _)); clear hst)
            | (refine wpList_store_opr rfl (.tmp 2) (.tmp 44) rfl w.heap.size ⟨false, y1, y2, y3⟩ ⟨false, y1, y2, y3⟩ rfl rfl HX4.out ?_; intro w5 hst; obtain ⟨_, ⟨x0, x1, x2, x3⟩, _⟩ := cellsO hst.2.2.2.2.1; have HB5 := Lib.hid (hst.below HB4.out (Nat.le_refl _)); clear hst))
        refine bodyPost_ret (v := .tuple #[.agg #[.bool false, .int .i64 y1, .int .i64 y2, .int .i64 y3], .bool false, .int .i64 0]) (by simp [results, Tryz.results24, go_sem, x0, x1, x2, x3]) rfl (HP6.out _ HB5.out)
      · go_wp2_with (first
            | (refine wpList_store_opr rfl (.tmp 2) (.tmp 43) rfl w.heap.size ⟨true, y1, y2, y3⟩ Opr.zero rfl rfl (HKr.out).1 ?_; intro w4 hst; obtain ⟨_, ⟨x0, x1, x2, x3⟩, _⟩ := cellsO hst.2.2.2.2.1; have HX4 := Lib.hid hst.2.2.2.2.1; have HB4 := Lib.hid (hst.below (HKr.out).2 (Nat.le_refl _)); clear hst)
            | (refine wpList_store_opr rfl (.tmp 2) (.tmp 44) rfl w.heap.size ⟨true, y1, y2, y3⟩ ⟨true, y1, y2, y3⟩ rfl rfl HX4.out ?_; intro w5 hst; obtain ⟨_, ⟨x0, x1, x2, x3⟩, _⟩ := cellsO hst.2.2.2.2.1; have HB5 := Lib.hid (hst.below HB4.out (Nat.le_refl _)); clear hst))
        refine bodyPost_ret (v := .tuple #[.agg #[.bool true, .int .i64 y1, .int .i64 y2, .int .i64 y3], .bool false, .int .i64 0]) (by simp [results, Tryz.results24, go_sem, x0, x1, x2, x3]) rfl (HP6.out _ HB5.out)
      · go_wp2_with (first
            | (refine wpList_store_opr rfl (.tmp 2) (.tmp 43) rfl w.heap.size ⟨true, y1, y2, y3⟩ Opr.zero rfl rfl (HKr.out).1 ?_; intro w4 hst; obtain ⟨_, ⟨x0, x1, x2, x3⟩, _⟩ := cellsO hst.2.2.2.2.1; have HX4 := Lib.hid hst.2.2.2.2.1; have HB4 := Lib.hid (hst.below (HKr.out).2 (Nat.le_refl _)); clear hst)
            | (refine wpList_store_opr rfl (.tmp 2) (.tmp 44) rfl w.heap.size ⟨true, y1, y2, y3⟩ ⟨true, y1, y2, y3⟩ rfl rfl HX4.out ?_; intro w5 hst; obtain ⟨_, ⟨x0, x1, x2, x3⟩, _⟩ := cellsO hst.2.2.2.2.1; have HB5 := Lib.hid (hst.below HB4.out (Nat.le_refl _)); clear hst))
        refine bodyPost_ret (v := .tuple #[.agg #[.bool true, .int .i64 y1, .int .i64 y2, .int .i64 y3], .bool true, .int .i64 0]) (by simp [results, Tryz.results24, go_sem, x0, x1, x2, x3]) rfl (HP6.out _ HB5.out)
end Go.Proofs.YtaogofjnpnheeaaGreatDoor.Op
