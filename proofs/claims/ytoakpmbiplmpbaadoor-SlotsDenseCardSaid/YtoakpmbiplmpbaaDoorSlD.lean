/-
  SlotsDense's walk: ids that take slots have the first ones; who frees one, and takes one, has it again. Not a statement of the seat.
-/
import Derived.Test.YtoakpmbiplmpbaaDoorSlLives
namespace Go.Proofs.YtoakpmbiplmpbaaDoor.Sl
open Go.ChangeShapes Go.WideShapes Go.ChangeAt Go.RowKit Go.Maps Base Bits Mp F
/-- Slots of which the first i are taken, by the ids from 1000 down. -/
def fillL (n i : Nat) : List Int := (List.range n).map fun j => if j < i then 1000 - (j : Int) else 0
theorem fill_len (n i : Nat) : (fillL n i).length = n := by simp [fillL]
theorem fill_at {n i j : Nat} (h : j < n) : (fillL n i).getD j 0 = if j < i then 1000 - (j : Int) else 0 := by
  simp [fillL, List.getD_eq_getElem?_getD, h]
theorem fill_zero (n : Nat) : fillL n 0 = List.replicate n 0 := by
  apply List.ext_getElem?
  intro j
  by_cases h : j < n <;> simp [fillL, h]
theorem fill_good {n i : Nat} (hn : n ≤ 100) : GoodI (fillL n i) := by
  refine ⟨by rw [fill_len]; omega, fun j hj => ?_, fun a b ha hb he h0 => ?_⟩
  · rw [fill_len] at hj
    rw [fill_at hj]; split <;> omega
  · rw [fill_len] at ha hb
    rw [fill_at ha] at he h0
    rw [fill_at hb] at he
    split at he <;> split at he <;> simp_all <;> omega
theorem fill_set {n i : Nat} (hi : i < n) : (fillL n i).set i (1000 - (i : Int)) = fillL n (i + 1) := by
  apply List.ext_getElem?
  intro j
  rw [List.getElem?_set]
  by_cases h : j < n
  · by_cases e : i = j
    · subst e; simp [fillL, hi]
    · rw [if_neg e]
      simp only [fillL, List.getElem?_map, List.getElem?_range h, Option.map_some]
      by_cases h2 : j < i
      · rw [if_pos h2, if_pos (by omega)]
      · rw [if_neg h2, if_neg (by omega)]
  · rw [if_neg (by omega)]
    simp [fillL, h]
theorem posF_is {l : List Int} {x : Int} {k : Nat} (hk : k < l.length) (h : l.getD k 0 = x) (hl : ∀ j, j < k → l.getD j 0 ≠ x) : posF l x = some k := by
  rcases hp : posF l x with _ | m
  · exact absurd h (posF_none hp k hk)
  · obtain ⟨h3, h4, h5⟩ := posF_some hp
    rcases Nat.lt_trichotomy m k with h6 | h6 | h6
    · exact absurd h4 (hl m h6)
    · rw [h6]
    · exact absurd h (h5 k h6)
theorem fill_take {n i : Nat} (hn : n ≤ 100) (hi : i < n) : takeL (fillL n i) (1000 - (i : Int)) = (fillL n (i + 1), (i : Int), 0) := by
  have hg := fill_good (n := n) (i := i) hn
  have hs : slotF (fillL n i) (1000 - (i : Int)) = none := by
    rcases hs : slotF (fillL n i) (1000 - (i : Int)) with _ | v
    · rfl
    · obtain ⟨k, h1, h2, h3, _⟩ := (slotF_iff hg).1 hs
      rw [fill_len] at h1
      rw [fill_at h1] at h2
      split at h2 <;> omega
  have hp : posF (fillL n i) 0 = some i := posF_is (by rw [fill_len]; exact hi) (by rw [fill_at hi, if_neg (by omega)]) fun j hj => by rw [fill_at (by omega), if_pos hj]; omega
  unfold takeL
  rw [if_neg (by omega), hs, if_neg (by simp), hp]
  simp only
  rw [fill_set hi]
/-- Slots that are all taken. -/
def FullI (l : List Int) : Prop := GoodI l ∧ ∀ j, j < l.length → l.getD j 0 ≠ 0
theorem fill_full {n : Nat} (hn : n ≤ 100) : FullI (fillL n n) := ⟨fill_good hn, fun j hj => by rw [fill_len] at hj; rw [fill_at hj, if_pos hj]; omega⟩
theorem full_free {l : List Int} (hf : FullI l) {x v : Int} (h : slotF l x = some v) : ∃ k : Nat, k < l.length ∧ v = (k : Int) ∧ freeL l x = (l.set k 0, 0) ∧ takeL (l.set k 0) x = (l, (k : Int), 0) := by
  obtain ⟨k, hk, h2, h3, rfl⟩ := (slotF_iff hf.1).1 h
  have hb := hf.1.2.1 k hk
  refine ⟨k, hk, rfl, by unfold freeL; rw [h]; simp only [Int.toNat_natCast], ?_⟩
  have hs : slotF (l.set k 0) x = none := by rw [slotF_zero hf.1 hk (by omega), if_pos h2.symm]
  have hp : posF (l.set k 0) 0 = some k := posF_is (by simpa using hk) (by rw [getD_set, if_pos ⟨rfl, hk⟩]) fun j hj => by
    rw [getD_set, if_neg (by omega)]; exact hf.2 j (by omega)
  unfold takeL
  rw [if_neg (by omega), hs, if_neg (by simp), hp]
  simp only
  rw [List.set_set, ← h2]
  have e : l.set k (l.getD k 0) = l := by
    apply List.ext_getElem?
    intro i
    rw [List.getElem?_set]
    by_cases c : k = i
    · subst c; simp [hk, List.getD_eq_getElem?_getD]
    · rw [if_neg c]
  rw [e]
theorem full_cnt {l : List Int} (hf : FullI l) : cntL l = l.length := by
  unfold cntL
  rw [List.filter_eq_self.2]
  intro x hx
  obtain ⟨j, hj, rfl⟩ := List.getElem_of_mem hx
  have := hf.2 j hj
  rw [List.getD_eq_getElem?_getD, List.getElem?_eq_getElem hj] at this
  simpa using this
/-- A pair of those that List tells. -/
theorem pair_tells {l : List Int} (hg : GoodI l) {j : Nat} (hj : j < (pairsL l).length) : slotF l ((pairsL l).getD j Pai.zero).v = some ((pairsL l).getD j Pai.zero).k ∧ idI l ((pairsL l).getD j Pai.zero).k = ((pairsL l).getD j Pai.zero).v ∧ ((pairsL l).getD j Pai.zero).v ≠ 0 := by
  have hm : (pairsL l).getD j Pai.zero ∈ pairsO 0 l := by
    rw [List.getD_eq_getElem?_getD, List.getElem?_eq_getElem hj]
    exact List.getElem_mem hj
  obtain ⟨k, h1, h2, h3, h4⟩ := pairsO_mem hm
  rw [Nat.zero_add] at h2
  refine ⟨(slotF_iff hg).2 ⟨k, h1, h3.symm, h4, h2⟩, ?_, h4⟩
  rw [h2]
  unfold idI
  rw [if_pos ⟨by omega, by omega⟩, Int.toNat_natCast, h3]
theorem roomL_in {n : Nat} (h : n ≤ 4096) : roomL (n : Int) = n := by unfold roomL; omega
set_option maxHeartbeats 4000000 in
set_option maxRecDepth 100000 in
theorem dense_walk (n : Int) (v : Value) (zs : List Int) (w : World) (hi : Lst.Ints 0 w v zs) (hT : TabW w) : Calls Tryd.prog 7 #[.int .i64 n, v] w (TruP w) := by
  have HL := Lib.hid (lives_sl w hT)
  have HT := Lib.hid hT
  have HI := Lib.hid hi
  obtain ⟨p, c, rfl, hl, _⟩ := hi.open_
  clear hi hT
  by_cases hbad : n < 1 ∨ 100 < n ∨ 100 < zs.length
  · clear HT HI
    have HJ : Hid (∀ X Y : World, Below w.heap.size w X → ∀ Z, Below X.heap.size X Z → Below w.heap.size w Z) := Lib.hid fun X Y h Z k => h.trans (k.mono h.size)
    rcases hbad with h1 | h1 | h1
    · go_enter Tryd.func7, Tryd.ntmps7
      go_wp2_with fail
      refine (HL.out).mono ?_
      rintro e w1 ⟨rfl, hb⟩
      go_wp2_with fail
      refine (slnew n _).mono ?_
      rintro e w2 ⟨b, mb, ib, tb, tg, rfl, _, _, hb2⟩
      have HB := Lib.hid (HJ.out w1 w1 hb w2 hb2)
      clear hb hb2
      go_wp2
      go_ret
      exact ⟨rfl, HB.out⟩
    · have h0 : 1 ≤ n := by omega
      go_enter Tryd.func7, Tryd.ntmps7
      go_wp2_with fail
      refine (HL.out).mono ?_
      rintro e w1 ⟨rfl, hb⟩
      go_wp2_with fail
      refine (slnew n _).mono ?_
      rintro e w2 ⟨b, mb, ib, tb, tg, rfl, _, _, hb2⟩
      have HB := Lib.hid (HJ.out w1 w1 hb w2 hb2)
      clear hb hb2
      go_wp2
      go_ret
      exact ⟨rfl, HB.out⟩
    · go_enter Tryd.func7, Tryd.ntmps7
      go_wp2_with fail
      refine (HL.out).mono ?_
      rintro e w1 ⟨rfl, hb⟩
      go_wp2_with fail
      refine (slnew n _).mono ?_
      rintro e w2 ⟨b, mb, ib, tb, tg, rfl, _, _, hb2⟩
      have HB := Lib.hid (HJ.out w1 w1 hb w2 hb2)
      clear hb hb2
      go_wp2
      all_goals go_ret
      all_goals exact ⟨rfl, HB.out⟩
  obtain ⟨N, rfl⟩ := Int.eq_ofNat_of_zero_le (show 0 ≤ n by omega)
  have hN1 : 1 ≤ N := by omega
  have hN2 : N ≤ 100 := by omega
  have hz : zs.length ≤ 100 := by omega
  clear hbad hl
  have HTK : Hid (∀ i, i < N → takeL (fillL N i) (1000 - (i : Int)) = (fillL N (i + 1), (i : Int), 0)) := Lib.hid fun i h => fill_take hN2 h
  have HR : Hid (List.replicate (roomL (N : Int)) (0 : Int) = fillL N 0) := Lib.hid (by rw [roomL_in (by omega), fill_zero])
  have HFU := Lib.hid (fill_full hN2)
  have HLN := Lib.hid (fill_len N N)
  go_enter Tryd.func7, Tryd.ntmps7
  go_wp2_with fail
  refine (HL.out).mono ?_
  rintro e w1 ⟨rfl, hb⟩
  have HB1 := Lib.hid hb
  clear hb HL
  go_wp2_with fail
  refine (slnew (N : Int) _).mono ?_
  intro e w2 hp
  obtain ⟨b, mb, ib, tb, tg, rfl, I2⟩ := SI.new hp
  rw [HR.out] at I2
  clear hp HR
  go_wp2_with fail
  go_loopw [6, 7, 8] (fun s6 _ _ wr => ∃ i : Nat, s6 = .int .i64 (i : Int) ∧ i ≤ N ∧ Hid (SI w1 wr b mb ib tb tg (fillL N i))) (fun s6 _ _ _ => N - (intOf s6).toNat)
  case atStart => exact ⟨0, rfl, Nat.zero_le _, I2⟩
  case round =>
    obtain ⟨i, rfl, hiN, I⟩ := hrel
    by_cases hlt : i < N
    · have hw : IntKind.i64.wrap (1000 - (i : Int)) = 1000 - (i : Int) := i64_in (by omega)
      have HC := Lib.hid (take_is I.out.1 (HTK.out i hlt))
      go_wp2_with fail
      refine (HC.out).mono ?_
      intro e w3 hp
      obtain ⟨rfl, I3⟩ := I.out.ch hp
      clear hp HC I
      go_wp2_with fail
      go_roundw
      case rel => exact ⟨i + 1, by go_num, by omega, I3⟩
      case measure => simp [intOf]; omega
    · obtain rfl : i = N := by omega
      clear HTK hlt hiN
      generalize fillL i i = L at I HFU HLN
      go_wp2_with fail
      go_loopw [10, 11, 12, 13, 14, 63] (fun _ _ _ _ _ s63 wr => ∃ j : Nat, s63 = .int .i64 (j : Int) ∧ j ≤ zs.length ∧ Hid (SI w1 wr b mb ib tb tg L)) (fun _ _ _ _ _ s63 _ => zs.length - (intOf s63).toNat)
      case atStart => exact ⟨0, rfl, Nat.zero_le _, I⟩
      case round =>
        obtain ⟨j, rfl, hj, I⟩ := hrel
        by_cases hlt : j < zs.length
        · have HZI : Hid (Lst.Ints 0 wr (.slice p zs.length c) zs) := Lib.hid ((HI.out.below HB1.out).below I.out.2.1)
          obtain ⟨p', c', hv', _, hcells⟩ := HZI.out.open_
          injection hv' with e1 _ e3
          subst e1 e3
          obtain ⟨g', o', rfl, _, _, hcell⟩ := hcells j hlt
          clear hcells HZI
          have HSL := Lib.hid (slot_any I.out.1 (zs.getD j 0))
          generalize zs.getD j 0 = x at hcell HSL
          rcases hs : slotF L x with _ | s
          · rw [hs] at HSL
            have HFR : Hid (freeL L x = (L, 3)) := Lib.hid (by unfold freeL; rw [hs])
            clear hs
            dsimp only [Option.getD, Option.isSome] at HSL
            go_wp2_with fail
            refine (HSL.out).mono ?_
            intro e w3 hp
            obtain ⟨rfl, I3⟩ := I.out.val hp
            clear hp HSL I
            have HC := Lib.hid (free_is I3.out.1 HFR.out)
            go_wp2_with fail
            refine (HC.out).mono ?_
            intro e w4 hp
            obtain ⟨rfl, I4⟩ := I3.out.ch hp
            clear hp HC I3
            go_wp2_with fail
            go_roundw
            case rel => exact ⟨j + 1, by go_num, by omega, I4⟩
            case measure => simp [intOf]; omega
          · obtain ⟨k, hk, rfl, hf1, hf2⟩ := full_free HFU.out hs
            rw [hs] at HSL
            have HFR := Lib.hid hf1
            have HTK := Lib.hid hf2
            clear hs hf1 hf2
            dsimp only [Option.getD, Option.isSome] at HSL
            generalize L.set k 0 = L0 at HFR HTK
            go_wp2_with fail
            refine (HSL.out).mono ?_
            intro e w3 hp
            obtain ⟨rfl, I3⟩ := I.out.val hp
            clear hp HSL I
            have HC := Lib.hid (free_is I3.out.1 HFR.out)
            go_wp2_with fail
            refine (HC.out).mono ?_
            intro e w4 hp
            obtain ⟨rfl, I4⟩ := I3.out.ch hp
            clear hp HC I3
            have HC := Lib.hid (take_is I4.out.1 HTK.out)
            go_wp2_with fail
            refine (HC.out).mono ?_
            intro e w5 hp
            obtain ⟨rfl, I5⟩ := I4.out.ch hp
            clear hp HC I4
            go_wp2_with fail
            go_roundw
            case rel => exact ⟨j + 1, by go_num, by omega, I5⟩
            case measure => simp [intOf]; omega
        · have HPT := Lib.hid (fun j hj => pair_tells HFU.out.1 (j := j) hj)
          have hpl : (pairsL L).length = i := by unfold pairsL; rw [pairsO_len, full_cnt HFU.out, HLN.out]
          have hcn : ((cntL L : Nat) : Int) = (i : Int) := by rw [full_cnt HFU.out, HLN.out]
          have hrm : (L.length : Int) - (cntL L : Int) = 0 := by rw [full_cnt HFU.out]; omega
          have HCN := Lib.hid hcn
          have HRM := Lib.hid hrm
          clear hcn hrm
          have HTQ := Lib.hid (I.out.tab (HT.out.below HB1.out))
          go_wp2_with fail
          refine (list_sl I.out.1 HTQ.out).mono ?_
          rintro e w3 ⟨lv, rfl, ho, hb⟩
          have HO := Lib.hid (F.OwnPai.list ho (by rw [hpl]; omega))
          have I3 := Lib.hid (I.out.below hb)
          clear ho hb I HTQ
          obtain ⟨lp, lc, rfl, _, hcells⟩ := HO.out.open_
          have HV := Lib.hid hcells
          clear hcells HO
          have HPL := Lib.hid hpl
          clear hpl
          generalize pairsL L = q at HV HPT HPL ⊢
          have hql : q.length ≤ 100 := by rw [HPL.out]; omega
          go_wp2_with fail
          go_loopw [16, 17, 18, 19, 20, 100] (fun _ _ _ _ _ s100 wr => ∃ j : Nat, s100 = .int .i64 (j : Int) ∧ j ≤ q.length ∧ Hid (SI w1 wr b mb ib tb tg L) ∧ Hid (Below w3.heap.size w3 wr)) (fun _ _ _ _ _ s100 _ => q.length - (intOf s100).toNat)
          case atStart => exact ⟨0, rfl, Nat.zero_le _, I3, Lib.hid (Below.refl _ _)⟩
          case round =>
            obtain ⟨j, rfl, hj, I, HB3⟩ := hrel
            by_cases hlt : j < q.length
            · have HLT := Lib.hid hlt
              obtain ⟨g', o', rfl, _, hg, c0, c1⟩ := HV.out j hlt
              have c0 := (HB3.out.cell (p := ⟨g', _, none⟩) hg).trans c0
              have c1 := (HB3.out.cell (p := ⟨g', _, none⟩) hg).trans c1
              obtain ⟨t1, t2, t3⟩ := HPT.out j hlt
              generalize q.getD j Pai.zero = x at c0 c1 t1 t2 t3
              obtain ⟨xk, xv⟩ := x
              simp only at c0 c1 t1 t2 t3
              have HSL : Hid (∀ X, SlAt X b mb ib tb tg L → Calls Tryd.prog 33 #[.pointer (some ⟨b, 0, none⟩), .int .i64 xv] X (ValP (.tuple #[.int .i64 xk, .bool true]) X)) := Lib.hid fun X h => by
                have := slot_any h xv
                rw [t1] at this
                exact this
              have HID : Hid (∀ X, SlAt X b mb ib tb tg L → Calls Tryd.prog 34 #[.pointer (some ⟨b, 0, none⟩), .int .i64 xk] X (ValP (.tuple #[.int .i64 xv, .bool true]) X)) := Lib.hid fun X h => id_is h t2 (decide_eq_true t3)
              clear t1 t2 t3 hg
              have HBX : Hid (∀ X, Below wr.heap.size wr X → SI w1 X b mb ib tb tg L ∧ Below w3.heap.size w3 X) := Lib.hid fun X hX => ⟨I.out.below hX, HB3.out.trans (hX.mono HB3.out.size)⟩
              have hb0 : Below wr.heap.size wr (wr.alloc (.cells #[.int .i64 xk, .int .i64 xv] 62)) := (Below.refl _ _).alloc (Nat.le_refl _) _
              have I4 := Lib.hid (HBX.out _ hb0)
              have hd0 := heap_alloc_at wr (.cells #[.int .i64 xk, .int .i64 xv] 62) wr.heap.size rfl
              have HD := Lib.hid hd0
              clear hb0 hd0
              go_wp2_with fail
              refine (HSL.out _ I4.out.1.1).mono ?_
              rintro e w4 ⟨rfl, hb⟩
              have hbx : w4.heap[wr.heap.size]? = some (.cells #[.int .i64 xk, .int .i64 xv] 62) := (hb.block _ (heap_lt HD.out)).trans HD.out
              obtain ⟨d0, d1⟩ := pai_box hbx
              have HX4 := Lib.hid hbx
              have I5 := Lib.hid (⟨I4.out.1.below hb, I4.out.2.trans (hb.mono I4.out.2.size)⟩ : SI w1 w4 b mb ib tb tg L ∧ Below w3.heap.size w3 w4)
              clear hb hbx I4 HD HBX
              go_wp2_with fail
              refine (HID.out _ I5.out.1.1).mono ?_
              rintro e w5 ⟨rfl, hb⟩
              have hbx : w5.heap[wr.heap.size]? = some (.cells #[.int .i64 xk, .int .i64 xv] 62) := (hb.block _ (heap_lt HX4.out)).trans HX4.out
              clear d0 d1
              obtain ⟨d0, d1⟩ := pai_box hbx
              have I6 := Lib.hid (⟨I5.out.1.below hb, I5.out.2.trans (hb.mono I5.out.2.size)⟩ : SI w1 w5 b mb ib tb tg L ∧ Below w3.heap.size w3 w5)
              clear hb hbx I5 HX4
              go_wp2_with fail
              go_roundw
              case rel => exact ⟨j + 1, by go_num, HLT.out, Lib.hid I6.out.1, Lib.hid I6.out.2⟩
              case measure =>
                have := HLT.out
                simp [intOf]; omega
            · have HLX : Hid (∀ X, SlAt X b mb ib tb tg L → Calls Tryd.prog 36 #[.pointer (some ⟨b, 0, none⟩)] X (ValP (.int .i64 (i : Int)) X)) := Lib.hid fun X h => len_is h HCN.out
              have HRX : Hid (∀ X, SlAt X b mb ib tb tg L → Calls Tryd.prog 37 #[.pointer (some ⟨b, 0, none⟩)] X (ValP (.int .i64 0) X)) := Lib.hid fun X h => room_is h HRM.out
              clear HV HPT HCN HRM
              go_wp2_with fail
              refine (HLX.out _ I.out.1).mono ?_
              intro e w4 hp
              obtain ⟨rfl, I4⟩ := I.out.val hp
              clear hp I
              go_wp2_with fail
              refine (HRX.out _ I4.out.1).mono ?_
              intro e w5 hp
              obtain ⟨rfl, I5⟩ := I4.out.val hp
              clear hp I4
              go_wp2
              go_ret
              exact ⟨rfl, HB1.out.trans (I5.out.2.1.mono HB1.out.size)⟩
end Go.Proofs.YtoakpmbiplmpbaaDoor.Sl
