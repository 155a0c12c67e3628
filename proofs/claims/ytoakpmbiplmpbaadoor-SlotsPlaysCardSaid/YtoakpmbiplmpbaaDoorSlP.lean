/-
  SlotsPlays' walk: whatever ids take slots and free them, all is told as the document says. Not a statement of the seat.
-/
import Derived.Test.YtoakpmbiplmpbaaDoorSlLives
namespace Go.Proofs.YtoakpmbiplmpbaaDoor.Sl
open Go.ChangeShapes Go.WideShapes Go.ChangeAt Go.RowKit Go.Maps Base Bits Mp F
/-- Slots of the call's own, the document's pairs beside them. -/
def QI (w0 w1 w : World) (b mb ib tb tg : Nat) (L M : List Int) (v : Value) : Prop := SI w0 w b mb ib tb tg L ∧ Pais w1.heap.size w v (pairsL M) ∧ (mb < w1.heap.size ∧ ib < w1.heap.size ∧ tg < w1.heap.size) ∧ w1.heap.size ≤ w.heap.size
section
variable {w0 w1 w w' : World} {b mb ib tb tg : Nat} {L L' M M' : List Int} {v v' u : Value} {e : Ending}
theorem QI.below (h : QI w0 w1 w b mb ib tb tg L M v) (hb : Below w.heap.size w w') : QI w0 w1 w' b mb ib tb tg L M v := ⟨h.1.below hb, h.2.1.below hb, h.2.2.1, Nat.le_trans h.2.2.2 hb.size⟩
theorem QI.ch (h : QI w0 w1 w b mb ib tb tg L M v) (hp : ChP b mb ib tb tg L' u w e w') : e = .returned u ∧ Hid (QI w0 w1 w' b mb ib tb tg L' M v) := by
  obtain ⟨h1, h2, h3, h4⟩ := h
  have hf := hp.2.2
  obtain ⟨k1, k2⟩ := h1.ch hp
  refine ⟨k1, Lib.hid ⟨k2.out, h2.kept (fun g hg hlt => ⟨hf.block hlt ?_, hg⟩) hf.size, h3, Nat.le_trans h4 hf.size⟩⟩
  rintro (rfl | rfl | rfl)
  · exact absurd h3.1 (by omega)
  · exact absurd h3.2.1 (by omega)
  · exact absurd h3.2.2 (by omega)
theorem QI.val (h : QI w0 w1 w b mb ib tb tg L M v) (hp : ValP u w e w') : e = .returned u ∧ Hid (QI w0 w1 w' b mb ib tb tg L M v) := ⟨hp.1, Lib.hid (h.below hp.2)⟩
theorem QI.pairs (h : QI w0 w1 w b mb ib tb tg L M v) (hv : Pais w1.heap.size w' v' (pairsL M')) (hb : Below w.heap.size w w') : QI w0 w1 w' b mb ib tb tg L M' v' := ⟨h.1.below hb, hv, h.2.2.1, Nat.le_trans h.2.2.2 hb.size⟩
theorem QI.good (h : QI w0 w1 w b mb ib tb tg L M v) : GoodI L := h.1.1.2.2.2.2
theorem pairs_len (l : List Int) : (pairsL l).length = cntL l := pairsO_len 0 l
theorem pairs_le {l : List Int} (h : GoodI l) : (pairsL l).length ≤ 4096 := by rw [pairs_len]; have := cntL_le l; have := h.1; omega
theorem QI.slotR (h : QI w0 w1 w b mb ib tb tg L L v) (x : Int) : Calls Tryd.prog 28 #[v, .int .i64 x] w (ValP (.int .i64 ((slotF L x).getD (-1))) w) := by
  have := slot_ref v (pairsL L) x w h.2.1 (by have := pairs_le h.good; omega)
  rwa [slotR_pairs h.good] at this
theorem QI.idR (h : QI w0 w1 w b mb ib tb tg L L v) (i : Int) : Calls Tryd.prog 35 #[v, .int .i64 i] w (ValP (.int .i64 (idI L i)) w) := by
  have := id_ref v (pairsL L) i w h.2.1 (by have := pairs_le h.good; omega)
  rwa [idR_pairs] at this
theorem QI.delR (h : QI w0 w1 w b mb ib tb tg L L v) {k : Nat} (hk : k < L.length) (h0 : L.getD k 0 ≠ 0) : Calls Tryd.prog 29 #[v, .int .i64 (k : Int)] w fun e w' => ∃ (v' : Value) (is : Bool), e = .returned (.tuple #[v', .bool is]) ∧ QI w0 w1 w' b mb ib tb tg L (L.set k 0) v' := by
  refine (del_ref v (pairsL L) (k : Int) w h.2.1 (by have := pairs_le h.good; omega)).mono ?_
  rintro e w' ⟨v', rfl, ho, hb⟩
  rw [pairs_del hk h0] at ho
  exact ⟨v', _, rfl, h.pairs ((ho.list (by have := pairs_le (good_zero h.good k); omega)).mono h.2.2.2) hb⟩
theorem QI.takeR (h : QI w0 w1 w b mb ib tb tg L L v) {n : Int} (hn : L.length = roomL n) (x : Int) : Calls Tryd.prog 31 #[v, .int .i64 n, .int .i64 x] w fun e w' => ∃ v' : Value, e = .returned (.tuple #[v', .int .i64 (takeL L x).2.1, .int .i64 (takeL L x).2.2]) ∧ QI w0 w1 w' b mb ib tb tg L (takeL L x).1 v' := by
  refine (take_ref v L n x h.good hn w h.2.2.2 h.2.1).mono ?_
  rintro e w' ⟨v', rfl, hv, hb⟩
  exact ⟨v', rfl, h.pairs hv hb⟩
theorem take_len (L : List Int) (x : Int) : (takeL L x).1.length = L.length := by
  unfold takeL
  split
  · rfl
  · split
    · rfl
    · split <;> simp
theorem free_len (L : List Int) (x : Int) : (freeL L x).1.length = L.length := by
  unfold freeL
  split <;> simp
theorem QI.same (h : QI w0 w1 w b mb ib tb tg L L v) {B : Nat} (hu : Pais B w u (pairsL L)) : Calls Tryd.prog 39 #[u, v] w (ValP (.bool true) w) := by
  have := same_ref u v (pairsL L) (pairsL L) w hu h.2.1 (by have := pairs_le h.good; omega)
  rw [(sameL_iff _ _).2 rfl] at this
  exact this.mono fun e w' ⟨h1, n, h2⟩ => ⟨h1, h2 ▸ below_drewN (Below.refl _ _) n⟩
end
def RndI (w0 w1 w : World) (b mb ib tb tg R : Nat) (v : Value) : Prop := ∃ L, QI w0 w1 w b mb ib tb tg L L v ∧ L.length = R
set_option maxHeartbeats 8000000 in
set_option maxRecDepth 100000 in
theorem plays_walk (n : Int) (v : Value) (zs : List Int) (slot : Int) (w : World) (hi : Lst.Ints 0 w v zs) (hT : TabW w) : Calls Tryd.prog 6 #[.int .i64 n, v, .int .i64 slot] w (TruP w) := by
  have HL : Hid (∀ X, TabW X → Calls Tryd.prog 27 #[] X (TruP X)) := Lib.hid fun X h => lives_sl X h
  have HT := Lib.hid hT
  have HI := Lib.hid hi
  obtain ⟨p, c, rfl, hl, _⟩ := hi.open_
  clear hi hT
  by_cases hbad : 60 < zs.length
  · clear HI
    go_enter Tryd.func6, Tryd.ntmps6
    go_wp2_with fail
    refine (slnew n _).mono ?_
    rintro e w2 ⟨b, mb, ib, tb, tg, rfl, _, _, hb2⟩
    have HB := Lib.hid hb2
    have HT2 := Lib.hid (HT.out.below hb2)
    clear hb2
    go_wp2_with fail
    refine (HL.out _ HT2.out).mono ?_
    rintro e w3 ⟨rfl, hb⟩
    have HB2 := Lib.hid (HB.out.trans (hb.mono HB.out.size))
    clear hb
    go_wp2
    go_ret
    exact ⟨rfl, HB2.out⟩
  have hz : zs.length ≤ 60 := by omega
  clear hbad hl
  have HRR : Hid ((∀ X : World, Calls Tryd.prog 38 #[.int .i64 n] X fun e w' => e = .returned (.int .i64 (roomL n : Nat)) ∧ X = w') ∧ roomL n ≤ 4096) := Lib.hid ⟨fun X => ref_room n, roomL_le n⟩
  have HN : Hid (∀ L : List Int, L.length = roomL n → ∀ (w0 w1 X : World) b mb ib tb tg u x, QI w0 w1 X b mb ib tb tg L L u → Calls Tryd.prog 31 #[u, .int .i64 n, .int .i64 x] X fun e w' => ∃ v' : Value, e = .returned (.tuple #[v', .int .i64 (takeL L x).2.1, .int .i64 (takeL L x).2.2]) ∧ QI w0 w1 w' b mb ib tb tg L (takeL L x).1 v') := Lib.hid fun L hL w0 w1 X b mb ib tb tg u x h => h.takeR hL x
  have HNW := Lib.hid (slnew n w)
  have HI0 : Hid (∀ (b : Nat) (X : World), NewSl n w (.returned (.pointer (some ⟨b, 0, none⟩))) X → ∃ mb ib tb tg, RndI w X X b mb ib tb tg (roomL n) (.slice none 0 0)) := Lib.hid fun b X hp => by
    obtain ⟨b', mb, ib, tb, tg, h1, h2, h3, h4⟩ := hp
    injection h1 with h1; injection h1 with h1; injection h1 with h1; injection h1 with h1
    subst h1
    obtain ⟨l1, l2, l3, l4, l5⟩ := h2.lt
    refine ⟨mb, ib, tb, tg, List.replicate (roomL n) 0, ⟨⟨h2, h4, h3.2.1, h3.2.2.1, h3.2.2.2.2⟩, ?_, ⟨l2, l3, l5⟩, Nat.le_refl _⟩, by simp⟩
    have e : pairsL (List.replicate (roomL n) 0) = [] := List.length_eq_zero_iff.1 (by rw [pairs_len, filter_rep])
    rw [e]
    exact Pais.nil
  generalize roomL n = R at HRR HN HI0
  go_enter Tryd.func6, Tryd.ntmps6
  obtain ⟨w2, hw2⟩ : ∃ w2, w2 = w := ⟨_, rfl⟩
  go_wp2_with fail
  refine (HNW.out).mono ?_
  intro e w3 hp
  obtain ⟨b, hb0⟩ : ∃ b, e = .returned (.pointer (some ⟨b, 0, none⟩)) := by obtain ⟨b, _, _, _, _, h1, _⟩ := hp; exact ⟨b, h1⟩
  subst hb0
  obtain ⟨mb, ib, tb, tg, hI⟩ := HI0.out b _ hp
  have I0 := Lib.hid hI
  clear hp hI HI0 HNW
  rw [← hw2] at I0
  have HT2 : Hid (TabW w2) := Lib.hid (by rw [hw2]; exact HT.out)
  have HI2 : Hid (Lst.Ints 0 w2 (.slice p zs.length c) zs) := Lib.hid (by rw [hw2]; exact HI.out)
  have HPO : Hid (∀ e (X : World), TruP w2 e X → TruP w e X) := Lib.hid (by rw [hw2]; exact fun _ _ h => h)
  clear hw2 HT HI
  go_wp2_with fail
  go_loopw [8, 10, 11, 12, 13, 14, 15, 16, 17, 18, 19, 20, 21, 22, 39] (fun s8 _ _ _ _ _ _ _ _ _ _ _ _ _ s39 wr => ∃ (j : Nat) (u : Value), s39 = .int .i64 (j : Int) ∧ u = s8 ∧ j ≤ zs.length ∧ Hid (RndI w2 w3 wr b mb ib tb tg R u)) (fun _ _ _ _ _ _ _ _ _ _ _ _ _ _ s39 _ => zs.length - (intOf s39).toNat)
  case atStart => exact ⟨0, _, rfl, rfl, Nat.zero_le _, I0⟩
  case round =>
    obtain ⟨j, u, rfl, rfl, hj, HI⟩ := hrel
    by_cases hlt : j < zs.length
    · have HZI := Lib.hid (HI2.out.below (by obtain ⟨L, h, _⟩ := HI.out; exact h.1.2.1))
      obtain ⟨p', c', hv', _, hcells⟩ := HZI.out.open_
      injection hv' with e1 _ e3
      subst e1 e3
      obtain ⟨g', o', rfl, _, _, hcell⟩ := hcells j hlt
      clear hcells HZI
      generalize zs.getD j 0 = x at hcell
      obtain ⟨L0, hQ, hL0⟩ := HI.out
      have I := Lib.hid hQ
      clear HI hQ
      by_cases hneg : x < 0 ∧ -2000000 < x
      · obtain ⟨hx1, hx2⟩ := hneg
        have hng : IntKind.i64.wrap (-x) = -x := i64_in (by omega)
        have HSR0 := Lib.hid (I.out.slotR (-x))
        rcases hs : slotF L0 (-x) with _ | kk
        · rw [hs] at HSR0
          dsimp only [Option.getD] at HSR0
          have HFR : Hid (freeL L0 (-x) = (L0, 3)) := Lib.hid (by unfold freeL; rw [hs])
          clear hs
          go_wp2_with fail
          refine (HSR0.out).mono ?_
          intro e y1 hp
          obtain ⟨rfl, I1⟩ := I.out.val hp
          clear hp I HSR0
          have HC := Lib.hid (free_is I1.out.1.1 HFR.out)
          go_wp2_with fail
          refine (HC.out).mono ?_
          intro e y2 hp
          obtain ⟨rfl, I⟩ := I1.out.ch hp
          clear hp I1 HC HFR
          obtain ⟨L, hLL⟩ : ∃ L, L = L0 := ⟨_, rfl⟩
          rw [← hLL] at I hL0
          have hrl := hL0
          clear hLL
          have hsx : slotF L x = none := slotF_out I.out.good (by omega)
          have HSX : Hid (∀ X, SlAt X b mb ib tb tg L → Calls Tryd.prog 33 #[.pointer (some ⟨b, 0, none⟩), .int .i64 x] X (ValP (.tuple #[.int .i64 0, .bool false]) X)) := Lib.hid fun X h => slot_is h hsx
          have HSR : Hid (∀ X u, QI w2 w3 X b mb ib tb tg L L u → Calls Tryd.prog 28 #[u, .int .i64 x] X (ValP (.int .i64 (-1)) X)) := Lib.hid fun X u h => by
            have := h.slotR x
            rwa [hsx] at this
          clear hsx hL0
          have HRL := Lib.hid hrl
          have HIX : Hid (∀ X, SlAt X b mb ib tb tg L → Calls Tryd.prog 34 #[.pointer (some ⟨b, 0, none⟩), .int .i64 slot] X (ValP (.tuple #[.int .i64 (idI L slot), .bool (decide (idI L slot ≠ 0))]) X)) := Lib.hid fun X h => id_any h slot
          have HIR : Hid (∀ X u, QI w2 w3 X b mb ib tb tg L L u → Calls Tryd.prog 35 #[u, .int .i64 slot] X (ValP (.int .i64 (idI L slot)) X)) := Lib.hid fun X u h => h.idR slot
          have hdec : decide (idI L slot ≠ 0) = (idI L slot != 0) := by by_cases h0 : idI L slot = 0 <;> simp [h0]
          rw [hdec] at HIX
          have HLX : Hid (∀ X, SlAt X b mb ib tb tg L → Calls Tryd.prog 36 #[.pointer (some ⟨b, 0, none⟩)] X (ValP (.int .i64 ((pairsL L).length : Nat)) X)) := Lib.hid fun X h => len_is h (by rw [pairs_len])
          have HRX : Hid (∀ X, SlAt X b mb ib tb tg L → Calls Tryd.prog 37 #[.pointer (some ⟨b, 0, none⟩)] X (ValP (.int .i64 ((R : Int) - ((pairsL L).length : Int))) X)) := Lib.hid fun X h => room_is h (by rw [pairs_len, HRL.out])
          have hpq := pairs_le I.out.good
          obtain ⟨lp, lc, hv, _, _⟩ := I.out.2.1.open_
          subst hv
          have HLS : Hid (∀ X, SlAt X b mb ib tb tg L → TabW X → Calls Tryd.prog 40 #[.pointer (some ⟨b, 0, none⟩)] X (PaiNew (pairsL L) X)) := Lib.hid fun X h t => list_sl h t
          have HSA : Hid (∀ X u, QI w2 w3 X b mb ib tb tg L L (.slice lp (pairsL L).length lc) → OwnPai 0 X u (pairsL L) → Calls Tryd.prog 39 #[u, .slice lp (pairsL L).length lc] X (ValP (.bool true) X)) := Lib.hid fun X u h hu => h.same (hu.list (by omega))
          have hR := HRR.out.2
          generalize (pairsL L).length = q at HIR HLX HRX HSA hpq I ⊢
          have hw2 : IntKind.i64.wrap ((R : Int) - (q : Int)) = (R : Int) - (q : Int) := i64_in (by omega)
          generalize idI L slot = y at HIX HIR
          generalize hyb : (y != 0) = yb at HIX
          clear hdec hrl
          go_wp2_with fail
          refine (HSX.out _ I.out.1.1).mono ?_
          intro e x1 hp
          obtain ⟨rfl, I1⟩ := I.out.val hp
          clear hp I
          go_wp2_with fail
          refine (HSR.out _ _ I1.out).mono ?_
          intro e x2 hp
          obtain ⟨rfl, I2⟩ := I1.out.val hp
          clear hp I1
          go_wp2_with fail
          refine (HIX.out _ I2.out.1.1).mono ?_
          intro e x3 hp
          obtain ⟨rfl, I3⟩ := I2.out.val hp
          clear hp I2
          go_wp2_with fail
          refine (HIR.out _ _ I3.out).mono ?_
          intro e x4 hp
          obtain ⟨rfl, I4⟩ := I3.out.val hp
          clear hp I3
          go_wp2_with fail
          refine (HLX.out _ I4.out.1.1).mono ?_
          intro e x5 hp
          obtain ⟨rfl, I5⟩ := I4.out.val hp
          clear hp I4
          go_wp2_with fail
          refine (HRX.out _ I5.out.1.1).mono ?_
          intro e x6 hp
          obtain ⟨rfl, I6⟩ := I5.out.val hp
          clear hp I5
          go_wp2_with fail
          refine (HRR.out.1 _).mono ?_
          rintro e x7 ⟨rfl, rfl⟩
          go_wp2_with fail
          refine (HLS.out _ I6.out.1.1 (I6.out.1.tab HT2.out)).mono ?_
          rintro e x8 ⟨ls, rfl, ho, hb⟩
          have I7 := Lib.hid (I6.out.below hb)
          have HO := Lib.hid (own_mono ho (Nat.zero_le _))
          clear ho hb I6
          go_wp2_with fail
          refine (HSA.out _ _ I7.out HO.out).mono ?_
          intro e x9 hp
          obtain ⟨rfl, I8⟩ := I7.out.val hp
          clear hp I7 HO
          go_wp2_with fail
          go_roundw
          case rel => exact ⟨j + 1, _, by go_num, rfl, by omega, Lib.hid ⟨L, I8.out, HRL.out⟩⟩
          case measure => simp [intOf]; omega
        · obtain ⟨k, hk, h0, hx0, rfl⟩ := (slotF_iff I.out.good).1 hs
          rw [hs] at HSR0
          dsimp only [Option.getD] at HSR0
          have HFR : Hid (freeL L0 (-x) = (L0.set k 0, 0)) := Lib.hid (by unfold freeL; rw [hs]; simp only [Int.toNat_natCast])
          have HDR : Hid (∀ X u, QI w2 w3 X b mb ib tb tg L0 L0 u → Calls Tryd.prog 29 #[u, .int .i64 (k : Int)] X fun e w' => ∃ (v' : Value) (is : Bool), e = .returned (.tuple #[v', .bool is]) ∧ QI w2 w3 w' b mb ib tb tg L0 (L0.set k 0) v') := Lib.hid fun X u h => h.delR hk (by rw [h0]; exact hx0)
          have hlk : (L0.set k 0).length = R := by rw [List.length_set]; exact hL0
          clear hs hk h0 hx0
          generalize L0.set k 0 = L at HFR HDR hlk
          go_wp2_with fail
          refine (HSR0.out).mono ?_
          intro e y1 hp
          obtain ⟨rfl, I1⟩ := I.out.val hp
          clear hp I HSR0
          go_wp2_with fail
          refine (HDR.out _ _ I1.out).mono ?_
          rintro e y2 ⟨u2, is2, rfl, hq⟩
          have I2 := Lib.hid hq
          clear hq I1 HDR
          have HC := Lib.hid (free_is I2.out.1.1 HFR.out)
          go_wp2_with fail
          refine (HC.out).mono ?_
          intro e y2 hp
          obtain ⟨rfl, I⟩ := I2.out.ch hp
          clear hp I2 HC HFR
          have hrl := hlk
          have hsx : slotF L x = none := slotF_out I.out.good (by omega)
          have HSX : Hid (∀ X, SlAt X b mb ib tb tg L → Calls Tryd.prog 33 #[.pointer (some ⟨b, 0, none⟩), .int .i64 x] X (ValP (.tuple #[.int .i64 0, .bool false]) X)) := Lib.hid fun X h => slot_is h hsx
          have HSR : Hid (∀ X u, QI w2 w3 X b mb ib tb tg L L u → Calls Tryd.prog 28 #[u, .int .i64 x] X (ValP (.int .i64 (-1)) X)) := Lib.hid fun X u h => by
            have := h.slotR x
            rwa [hsx] at this
          clear hsx hL0 hlk
          have HRL := Lib.hid hrl
          have HIX : Hid (∀ X, SlAt X b mb ib tb tg L → Calls Tryd.prog 34 #[.pointer (some ⟨b, 0, none⟩), .int .i64 slot] X (ValP (.tuple #[.int .i64 (idI L slot), .bool (decide (idI L slot ≠ 0))]) X)) := Lib.hid fun X h => id_any h slot
          have HIR : Hid (∀ X u, QI w2 w3 X b mb ib tb tg L L u → Calls Tryd.prog 35 #[u, .int .i64 slot] X (ValP (.int .i64 (idI L slot)) X)) := Lib.hid fun X u h => h.idR slot
          have hdec : decide (idI L slot ≠ 0) = (idI L slot != 0) := by by_cases h0 : idI L slot = 0 <;> simp [h0]
          rw [hdec] at HIX
          have HLX : Hid (∀ X, SlAt X b mb ib tb tg L → Calls Tryd.prog 36 #[.pointer (some ⟨b, 0, none⟩)] X (ValP (.int .i64 ((pairsL L).length : Nat)) X)) := Lib.hid fun X h => len_is h (by rw [pairs_len])
          have HRX : Hid (∀ X, SlAt X b mb ib tb tg L → Calls Tryd.prog 37 #[.pointer (some ⟨b, 0, none⟩)] X (ValP (.int .i64 ((R : Int) - ((pairsL L).length : Int))) X)) := Lib.hid fun X h => room_is h (by rw [pairs_len, HRL.out])
          have hpq := pairs_le I.out.good
          obtain ⟨lp, lc, hv, _, _⟩ := I.out.2.1.open_
          subst hv
          have HLS : Hid (∀ X, SlAt X b mb ib tb tg L → TabW X → Calls Tryd.prog 40 #[.pointer (some ⟨b, 0, none⟩)] X (PaiNew (pairsL L) X)) := Lib.hid fun X h t => list_sl h t
          have HSA : Hid (∀ X u, QI w2 w3 X b mb ib tb tg L L (.slice lp (pairsL L).length lc) → OwnPai 0 X u (pairsL L) → Calls Tryd.prog 39 #[u, .slice lp (pairsL L).length lc] X (ValP (.bool true) X)) := Lib.hid fun X u h hu => h.same (hu.list (by omega))
          have hR := HRR.out.2
          generalize (pairsL L).length = q at HIR HLX HRX HSA hpq I ⊢
          have hw2 : IntKind.i64.wrap ((R : Int) - (q : Int)) = (R : Int) - (q : Int) := i64_in (by omega)
          generalize idI L slot = y at HIX HIR
          generalize hyb : (y != 0) = yb at HIX
          clear hdec hrl
          go_wp2_with fail
          refine (HSX.out _ I.out.1.1).mono ?_
          intro e x1 hp
          obtain ⟨rfl, I1⟩ := I.out.val hp
          clear hp I
          go_wp2_with fail
          refine (HSR.out _ _ I1.out).mono ?_
          intro e x2 hp
          obtain ⟨rfl, I2⟩ := I1.out.val hp
          clear hp I1
          go_wp2_with fail
          refine (HIX.out _ I2.out.1.1).mono ?_
          intro e x3 hp
          obtain ⟨rfl, I3⟩ := I2.out.val hp
          clear hp I2
          go_wp2_with fail
          refine (HIR.out _ _ I3.out).mono ?_
          intro e x4 hp
          obtain ⟨rfl, I4⟩ := I3.out.val hp
          clear hp I3
          go_wp2_with fail
          refine (HLX.out _ I4.out.1.1).mono ?_
          intro e x5 hp
          obtain ⟨rfl, I5⟩ := I4.out.val hp
          clear hp I4
          go_wp2_with fail
          refine (HRX.out _ I5.out.1.1).mono ?_
          intro e x6 hp
          obtain ⟨rfl, I6⟩ := I5.out.val hp
          clear hp I5
          go_wp2_with fail
          refine (HRR.out.1 _).mono ?_
          rintro e x7 ⟨rfl, rfl⟩
          go_wp2_with fail
          refine (HLS.out _ I6.out.1.1 (I6.out.1.tab HT2.out)).mono ?_
          rintro e x8 ⟨ls, rfl, ho, hb⟩
          have I7 := Lib.hid (I6.out.below hb)
          have HO := Lib.hid (own_mono ho (Nat.zero_le _))
          clear ho hb I6
          go_wp2_with fail
          refine (HSA.out _ _ I7.out HO.out).mono ?_
          intro e x9 hp
          obtain ⟨rfl, I8⟩ := I7.out.val hp
          clear hp I7 HO
          go_wp2_with fail
          go_roundw
          case rel => exact ⟨j + 1, _, by go_num, rfl, by omega, Lib.hid ⟨L, I8.out, HRL.out⟩⟩
          case measure => simp [intOf]; omega
      · have HTR := Lib.hid (HN.out L0 hL0 w2 w3 wr b mb ib tb tg _ x I.out)
        have HTK : Hid (takeL L0 x = ((takeL L0 x).1, (takeL L0 x).2.1, (takeL L0 x).2.2)) := Lib.hid rfl
        have hlk := take_len L0 x
        rw [hL0] at hlk
        generalize (takeL L0 x).2.1 = rs at HTR HTK
        generalize (takeL L0 x).2.2 = ry at HTR HTK
        generalize (takeL L0 x).1 = L at HTR HTK hlk
        rcases hs : slotF L x with _ | kk
        · by_cases hx1 : x < 0
          · have hx2 : x ≤ -2000000 := by omega
            clear hneg
            go_wp2_with fail
            refine (HTR.out).mono ?_
            rintro e y1 ⟨u2, rfl, hq⟩
            have I1 := Lib.hid hq
            clear hq I HTR
            have HC := Lib.hid (take_is I1.out.1.1 HTK.out)
            go_wp2_with fail
            refine (HC.out).mono ?_
            intro e y2 hp
            obtain ⟨rfl, I⟩ := I1.out.ch hp
            clear hp I1 HC HTK
            have hrl := hlk
            have HSX : Hid (∀ X, SlAt X b mb ib tb tg L → Calls Tryd.prog 33 #[.pointer (some ⟨b, 0, none⟩), .int .i64 x] X (ValP (.tuple #[.int .i64 0, .bool false]) X)) := Lib.hid fun X h => slot_is h hs
            have HSR : Hid (∀ X u, QI w2 w3 X b mb ib tb tg L L u → Calls Tryd.prog 28 #[u, .int .i64 x] X (ValP (.int .i64 (-1)) X)) := Lib.hid fun X u h => by
              have := h.slotR x
              rwa [hs] at this
            clear hs hL0 hlk
            have HRL := Lib.hid hrl
            have HIX : Hid (∀ X, SlAt X b mb ib tb tg L → Calls Tryd.prog 34 #[.pointer (some ⟨b, 0, none⟩), .int .i64 slot] X (ValP (.tuple #[.int .i64 (idI L slot), .bool (decide (idI L slot ≠ 0))]) X)) := Lib.hid fun X h => id_any h slot
            have HIR : Hid (∀ X u, QI w2 w3 X b mb ib tb tg L L u → Calls Tryd.prog 35 #[u, .int .i64 slot] X (ValP (.int .i64 (idI L slot)) X)) := Lib.hid fun X u h => h.idR slot
            have hdec : decide (idI L slot ≠ 0) = (idI L slot != 0) := by by_cases h0 : idI L slot = 0 <;> simp [h0]
            rw [hdec] at HIX
            have HLX : Hid (∀ X, SlAt X b mb ib tb tg L → Calls Tryd.prog 36 #[.pointer (some ⟨b, 0, none⟩)] X (ValP (.int .i64 ((pairsL L).length : Nat)) X)) := Lib.hid fun X h => len_is h (by rw [pairs_len])
            have HRX : Hid (∀ X, SlAt X b mb ib tb tg L → Calls Tryd.prog 37 #[.pointer (some ⟨b, 0, none⟩)] X (ValP (.int .i64 ((R : Int) - ((pairsL L).length : Int))) X)) := Lib.hid fun X h => room_is h (by rw [pairs_len, HRL.out])
            have hpq := pairs_le I.out.good
            obtain ⟨lp, lc, hv, _, _⟩ := I.out.2.1.open_
            subst hv
            have HLS : Hid (∀ X, SlAt X b mb ib tb tg L → TabW X → Calls Tryd.prog 40 #[.pointer (some ⟨b, 0, none⟩)] X (PaiNew (pairsL L) X)) := Lib.hid fun X h t => list_sl h t
            have HSA : Hid (∀ X u, QI w2 w3 X b mb ib tb tg L L (.slice lp (pairsL L).length lc) → OwnPai 0 X u (pairsL L) → Calls Tryd.prog 39 #[u, .slice lp (pairsL L).length lc] X (ValP (.bool true) X)) := Lib.hid fun X u h hu => h.same (hu.list (by omega))
            have hR := HRR.out.2
            generalize (pairsL L).length = q at HIR HLX HRX HSA hpq I ⊢
            have hw2 : IntKind.i64.wrap ((R : Int) - (q : Int)) = (R : Int) - (q : Int) := i64_in (by omega)
            generalize idI L slot = y at HIX HIR
            generalize hyb : (y != 0) = yb at HIX
            clear hdec hrl
            go_wp2_with fail
            refine (HSX.out _ I.out.1.1).mono ?_
            intro e x1 hp
            obtain ⟨rfl, I1⟩ := I.out.val hp
            clear hp I
            go_wp2_with fail
            refine (HSR.out _ _ I1.out).mono ?_
            intro e x2 hp
            obtain ⟨rfl, I2⟩ := I1.out.val hp
            clear hp I1
            go_wp2_with fail
            refine (HIX.out _ I2.out.1.1).mono ?_
            intro e x3 hp
            obtain ⟨rfl, I3⟩ := I2.out.val hp
            clear hp I2
            go_wp2_with fail
            refine (HIR.out _ _ I3.out).mono ?_
            intro e x4 hp
            obtain ⟨rfl, I4⟩ := I3.out.val hp
            clear hp I3
            go_wp2_with fail
            refine (HLX.out _ I4.out.1.1).mono ?_
            intro e x5 hp
            obtain ⟨rfl, I5⟩ := I4.out.val hp
            clear hp I4
            go_wp2_with fail
            refine (HRX.out _ I5.out.1.1).mono ?_
            intro e x6 hp
            obtain ⟨rfl, I6⟩ := I5.out.val hp
            clear hp I5
            go_wp2_with fail
            refine (HRR.out.1 _).mono ?_
            rintro e x7 ⟨rfl, rfl⟩
            go_wp2_with fail
            refine (HLS.out _ I6.out.1.1 (I6.out.1.tab HT2.out)).mono ?_
            rintro e x8 ⟨ls, rfl, ho, hb⟩
            have I7 := Lib.hid (I6.out.below hb)
            have HO := Lib.hid (own_mono ho (Nat.zero_le _))
            clear ho hb I6
            go_wp2_with fail
            refine (HSA.out _ _ I7.out HO.out).mono ?_
            intro e x9 hp
            obtain ⟨rfl, I8⟩ := I7.out.val hp
            clear hp I7 HO
            go_wp2_with fail
            go_roundw
            case rel => exact ⟨j + 1, _, by go_num, rfl, by omega, Lib.hid ⟨L, I8.out, HRL.out⟩⟩
            case measure => simp [intOf]; omega
          · have hx2 : 0 ≤ x := by omega
            clear hneg
            go_wp2_with fail
            refine (HTR.out).mono ?_
            rintro e y1 ⟨u2, rfl, hq⟩
            have I1 := Lib.hid hq
            clear hq I HTR
            have HC := Lib.hid (take_is I1.out.1.1 HTK.out)
            go_wp2_with fail
            refine (HC.out).mono ?_
            intro e y2 hp
            obtain ⟨rfl, I⟩ := I1.out.ch hp
            clear hp I1 HC HTK
            have hrl := hlk
            have HSX : Hid (∀ X, SlAt X b mb ib tb tg L → Calls Tryd.prog 33 #[.pointer (some ⟨b, 0, none⟩), .int .i64 x] X (ValP (.tuple #[.int .i64 0, .bool false]) X)) := Lib.hid fun X h => slot_is h hs
            have HSR : Hid (∀ X u, QI w2 w3 X b mb ib tb tg L L u → Calls Tryd.prog 28 #[u, .int .i64 x] X (ValP (.int .i64 (-1)) X)) := Lib.hid fun X u h => by
              have := h.slotR x
              rwa [hs] at this
            clear hs hL0 hlk
            have HRL := Lib.hid hrl
            have HIX : Hid (∀ X, SlAt X b mb ib tb tg L → Calls Tryd.prog 34 #[.pointer (some ⟨b, 0, none⟩), .int .i64 slot] X (ValP (.tuple #[.int .i64 (idI L slot), .bool (decide (idI L slot ≠ 0))]) X)) := Lib.hid fun X h => id_any h slot
            have HIR : Hid (∀ X u, QI w2 w3 X b mb ib tb tg L L u → Calls Tryd.prog 35 #[u, .int .i64 slot] X (ValP (.int .i64 (idI L slot)) X)) := Lib.hid fun X u h => h.idR slot
            have hdec : decide (idI L slot ≠ 0) = (idI L slot != 0) := by by_cases h0 : idI L slot = 0 <;> simp [h0]
            rw [hdec] at HIX
            have HLX : Hid (∀ X, SlAt X b mb ib tb tg L → Calls Tryd.prog 36 #[.pointer (some ⟨b, 0, none⟩)] X (ValP (.int .i64 ((pairsL L).length : Nat)) X)) := Lib.hid fun X h => len_is h (by rw [pairs_len])
            have HRX : Hid (∀ X, SlAt X b mb ib tb tg L → Calls Tryd.prog 37 #[.pointer (some ⟨b, 0, none⟩)] X (ValP (.int .i64 ((R : Int) - ((pairsL L).length : Int))) X)) := Lib.hid fun X h => room_is h (by rw [pairs_len, HRL.out])
            have hpq := pairs_le I.out.good
            obtain ⟨lp, lc, hv, _, _⟩ := I.out.2.1.open_
            subst hv
            have HLS : Hid (∀ X, SlAt X b mb ib tb tg L → TabW X → Calls Tryd.prog 40 #[.pointer (some ⟨b, 0, none⟩)] X (PaiNew (pairsL L) X)) := Lib.hid fun X h t => list_sl h t
            have HSA : Hid (∀ X u, QI w2 w3 X b mb ib tb tg L L (.slice lp (pairsL L).length lc) → OwnPai 0 X u (pairsL L) → Calls Tryd.prog 39 #[u, .slice lp (pairsL L).length lc] X (ValP (.bool true) X)) := Lib.hid fun X u h hu => h.same (hu.list (by omega))
            have hR := HRR.out.2
            generalize (pairsL L).length = q at HIR HLX HRX HSA hpq I ⊢
            have hw2 : IntKind.i64.wrap ((R : Int) - (q : Int)) = (R : Int) - (q : Int) := i64_in (by omega)
            generalize idI L slot = y at HIX HIR
            generalize hyb : (y != 0) = yb at HIX
            clear hdec hrl
            go_wp2_with fail
            refine (HSX.out _ I.out.1.1).mono ?_
            intro e x1 hp
            obtain ⟨rfl, I1⟩ := I.out.val hp
            clear hp I
            go_wp2_with fail
            refine (HSR.out _ _ I1.out).mono ?_
            intro e x2 hp
            obtain ⟨rfl, I2⟩ := I1.out.val hp
            clear hp I1
            go_wp2_with fail
            refine (HIX.out _ I2.out.1.1).mono ?_
            intro e x3 hp
            obtain ⟨rfl, I3⟩ := I2.out.val hp
            clear hp I2
            go_wp2_with fail
            refine (HIR.out _ _ I3.out).mono ?_
            intro e x4 hp
            obtain ⟨rfl, I4⟩ := I3.out.val hp
            clear hp I3
            go_wp2_with fail
            refine (HLX.out _ I4.out.1.1).mono ?_
            intro e x5 hp
            obtain ⟨rfl, I5⟩ := I4.out.val hp
            clear hp I4
            go_wp2_with fail
            refine (HRX.out _ I5.out.1.1).mono ?_
            intro e x6 hp
            obtain ⟨rfl, I6⟩ := I5.out.val hp
            clear hp I5
            go_wp2_with fail
            refine (HRR.out.1 _).mono ?_
            rintro e x7 ⟨rfl, rfl⟩
            go_wp2_with fail
            refine (HLS.out _ I6.out.1.1 (I6.out.1.tab HT2.out)).mono ?_
            rintro e x8 ⟨ls, rfl, ho, hb⟩
            have I7 := Lib.hid (I6.out.below hb)
            have HO := Lib.hid (own_mono ho (Nat.zero_le _))
            clear ho hb I6
            go_wp2_with fail
            refine (HSA.out _ _ I7.out HO.out).mono ?_
            intro e x9 hp
            obtain ⟨rfl, I8⟩ := I7.out.val hp
            clear hp I7 HO
            go_wp2_with fail
            go_roundw
            case rel => exact ⟨j + 1, _, by go_num, rfl, by omega, Lib.hid ⟨L, I8.out, HRL.out⟩⟩
            case measure => simp [intOf]; omega
        · by_cases hx1 : x < 0
          · have hx2 : x ≤ -2000000 := by omega
            clear hneg
            go_wp2_with fail
            refine (HTR.out).mono ?_
            rintro e y1 ⟨u2, rfl, hq⟩
            have I1 := Lib.hid hq
            clear hq I HTR
            have HC := Lib.hid (take_is I1.out.1.1 HTK.out)
            go_wp2_with fail
            refine (HC.out).mono ?_
            intro e y2 hp
            obtain ⟨rfl, I⟩ := I1.out.ch hp
            clear hp I1 HC HTK
            have hrl := hlk
            obtain ⟨k, hk, _, _, rfl⟩ := (slotF_iff I.out.good).1 hs
            have HSX : Hid (∀ X, SlAt X b mb ib tb tg L → Calls Tryd.prog 33 #[.pointer (some ⟨b, 0, none⟩), .int .i64 x] X (ValP (.tuple #[.int .i64 (k : Int), .bool true]) X)) := Lib.hid fun X h => slot_is h hs
            have HSR : Hid (∀ X u, QI w2 w3 X b mb ib tb tg L L u → Calls Tryd.prog 28 #[u, .int .i64 x] X (ValP (.int .i64 (k : Int)) X)) := Lib.hid fun X u h => by
              have := h.slotR x
              rwa [hs] at this
            clear hs hL0 hlk hk
            have HRL := Lib.hid hrl
            have HIX : Hid (∀ X, SlAt X b mb ib tb tg L → Calls Tryd.prog 34 #[.pointer (some ⟨b, 0, none⟩), .int .i64 slot] X (ValP (.tuple #[.int .i64 (idI L slot), .bool (decide (idI L slot ≠ 0))]) X)) := Lib.hid fun X h => id_any h slot
            have HIR : Hid (∀ X u, QI w2 w3 X b mb ib tb tg L L u → Calls Tryd.prog 35 #[u, .int .i64 slot] X (ValP (.int .i64 (idI L slot)) X)) := Lib.hid fun X u h => h.idR slot
            have hdec : decide (idI L slot ≠ 0) = (idI L slot != 0) := by by_cases h0 : idI L slot = 0 <;> simp [h0]
            rw [hdec] at HIX
            have HLX : Hid (∀ X, SlAt X b mb ib tb tg L → Calls Tryd.prog 36 #[.pointer (some ⟨b, 0, none⟩)] X (ValP (.int .i64 ((pairsL L).length : Nat)) X)) := Lib.hid fun X h => len_is h (by rw [pairs_len])
            have HRX : Hid (∀ X, SlAt X b mb ib tb tg L → Calls Tryd.prog 37 #[.pointer (some ⟨b, 0, none⟩)] X (ValP (.int .i64 ((R : Int) - ((pairsL L).length : Int))) X)) := Lib.hid fun X h => room_is h (by rw [pairs_len, HRL.out])
            have hpq := pairs_le I.out.good
            obtain ⟨lp, lc, hv, _, _⟩ := I.out.2.1.open_
            subst hv
            have HLS : Hid (∀ X, SlAt X b mb ib tb tg L → TabW X → Calls Tryd.prog 40 #[.pointer (some ⟨b, 0, none⟩)] X (PaiNew (pairsL L) X)) := Lib.hid fun X h t => list_sl h t
            have HSA : Hid (∀ X u, QI w2 w3 X b mb ib tb tg L L (.slice lp (pairsL L).length lc) → OwnPai 0 X u (pairsL L) → Calls Tryd.prog 39 #[u, .slice lp (pairsL L).length lc] X (ValP (.bool true) X)) := Lib.hid fun X u h hu => h.same (hu.list (by omega))
            have hR := HRR.out.2
            generalize (pairsL L).length = q at HIR HLX HRX HSA hpq I ⊢
            have hw2 : IntKind.i64.wrap ((R : Int) - (q : Int)) = (R : Int) - (q : Int) := i64_in (by omega)
            generalize idI L slot = y at HIX HIR
            generalize hyb : (y != 0) = yb at HIX
            clear hdec hrl
            go_wp2_with fail
            refine (HSX.out _ I.out.1.1).mono ?_
            intro e x1 hp
            obtain ⟨rfl, I1⟩ := I.out.val hp
            clear hp I
            go_wp2_with fail
            refine (HSR.out _ _ I1.out).mono ?_
            intro e x2 hp
            obtain ⟨rfl, I2⟩ := I1.out.val hp
            clear hp I1
            go_wp2_with fail
            refine (HIX.out _ I2.out.1.1).mono ?_
            intro e x3 hp
            obtain ⟨rfl, I3⟩ := I2.out.val hp
            clear hp I2
            go_wp2_with fail
            refine (HIR.out _ _ I3.out).mono ?_
            intro e x4 hp
            obtain ⟨rfl, I4⟩ := I3.out.val hp
            clear hp I3
            go_wp2_with fail
            refine (HLX.out _ I4.out.1.1).mono ?_
            intro e x5 hp
            obtain ⟨rfl, I5⟩ := I4.out.val hp
            clear hp I4
            go_wp2_with fail
            refine (HRX.out _ I5.out.1.1).mono ?_
            intro e x6 hp
            obtain ⟨rfl, I6⟩ := I5.out.val hp
            clear hp I5
            go_wp2_with fail
            refine (HRR.out.1 _).mono ?_
            rintro e x7 ⟨rfl, rfl⟩
            go_wp2_with fail
            refine (HLS.out _ I6.out.1.1 (I6.out.1.tab HT2.out)).mono ?_
            rintro e x8 ⟨ls, rfl, ho, hb⟩
            have I7 := Lib.hid (I6.out.below hb)
            have HO := Lib.hid (own_mono ho (Nat.zero_le _))
            clear ho hb I6
            go_wp2_with fail
            refine (HSA.out _ _ I7.out HO.out).mono ?_
            intro e x9 hp
            obtain ⟨rfl, I8⟩ := I7.out.val hp
            clear hp I7 HO
            go_wp2_with fail
            go_roundw
            case rel => exact ⟨j + 1, _, by go_num, rfl, by omega, Lib.hid ⟨L, I8.out, HRL.out⟩⟩
            case measure => simp [intOf]; omega
          · have hx2 : 0 ≤ x := by omega
            clear hneg
            go_wp2_with fail
            refine (HTR.out).mono ?_
            rintro e y1 ⟨u2, rfl, hq⟩
            have I1 := Lib.hid hq
            clear hq I HTR
            have HC := Lib.hid (take_is I1.out.1.1 HTK.out)
            go_wp2_with fail
            refine (HC.out).mono ?_
            intro e y2 hp
            obtain ⟨rfl, I⟩ := I1.out.ch hp
            clear hp I1 HC HTK
            have hrl := hlk
            obtain ⟨k, hk, _, _, rfl⟩ := (slotF_iff I.out.good).1 hs
            have HSX : Hid (∀ X, SlAt X b mb ib tb tg L → Calls Tryd.prog 33 #[.pointer (some ⟨b, 0, none⟩), .int .i64 x] X (ValP (.tuple #[.int .i64 (k : Int), .bool true]) X)) := Lib.hid fun X h => slot_is h hs
            have HSR : Hid (∀ X u, QI w2 w3 X b mb ib tb tg L L u → Calls Tryd.prog 28 #[u, .int .i64 x] X (ValP (.int .i64 (k : Int)) X)) := Lib.hid fun X u h => by
              have := h.slotR x
              rwa [hs] at this
            clear hs hL0 hlk hk
            have HRL := Lib.hid hrl
            have HIX : Hid (∀ X, SlAt X b mb ib tb tg L → Calls Tryd.prog 34 #[.pointer (some ⟨b, 0, none⟩), .int .i64 slot] X (ValP (.tuple #[.int .i64 (idI L slot), .bool (decide (idI L slot ≠ 0))]) X)) := Lib.hid fun X h => id_any h slot
            have HIR : Hid (∀ X u, QI w2 w3 X b mb ib tb tg L L u → Calls Tryd.prog 35 #[u, .int .i64 slot] X (ValP (.int .i64 (idI L slot)) X)) := Lib.hid fun X u h => h.idR slot
            have hdec : decide (idI L slot ≠ 0) = (idI L slot != 0) := by by_cases h0 : idI L slot = 0 <;> simp [h0]
            rw [hdec] at HIX
            have HLX : Hid (∀ X, SlAt X b mb ib tb tg L → Calls Tryd.prog 36 #[.pointer (some ⟨b, 0, none⟩)] X (ValP (.int .i64 ((pairsL L).length : Nat)) X)) := Lib.hid fun X h => len_is h (by rw [pairs_len])
            have HRX : Hid (∀ X, SlAt X b mb ib tb tg L → Calls Tryd.prog 37 #[.pointer (some ⟨b, 0, none⟩)] X (ValP (.int .i64 ((R : Int) - ((pairsL L).length : Int))) X)) := Lib.hid fun X h => room_is h (by rw [pairs_len, HRL.out])
            have hpq := pairs_le I.out.good
            obtain ⟨lp, lc, hv, _, _⟩ := I.out.2.1.open_
            subst hv
            have HLS : Hid (∀ X, SlAt X b mb ib tb tg L → TabW X → Calls Tryd.prog 40 #[.pointer (some ⟨b, 0, none⟩)] X (PaiNew (pairsL L) X)) := Lib.hid fun X h t => list_sl h t
            have HSA : Hid (∀ X u, QI w2 w3 X b mb ib tb tg L L (.slice lp (pairsL L).length lc) → OwnPai 0 X u (pairsL L) → Calls Tryd.prog 39 #[u, .slice lp (pairsL L).length lc] X (ValP (.bool true) X)) := Lib.hid fun X u h hu => h.same (hu.list (by omega))
            have hR := HRR.out.2
            generalize (pairsL L).length = q at HIR HLX HRX HSA hpq I ⊢
            have hw2 : IntKind.i64.wrap ((R : Int) - (q : Int)) = (R : Int) - (q : Int) := i64_in (by omega)
            generalize idI L slot = y at HIX HIR
            generalize hyb : (y != 0) = yb at HIX
            clear hdec hrl
            go_wp2_with fail
            refine (HSX.out _ I.out.1.1).mono ?_
            intro e x1 hp
            obtain ⟨rfl, I1⟩ := I.out.val hp
            clear hp I
            go_wp2_with fail
            refine (HSR.out _ _ I1.out).mono ?_
            intro e x2 hp
            obtain ⟨rfl, I2⟩ := I1.out.val hp
            clear hp I1
            go_wp2_with fail
            refine (HIX.out _ I2.out.1.1).mono ?_
            intro e x3 hp
            obtain ⟨rfl, I3⟩ := I2.out.val hp
            clear hp I2
            go_wp2_with fail
            refine (HIR.out _ _ I3.out).mono ?_
            intro e x4 hp
            obtain ⟨rfl, I4⟩ := I3.out.val hp
            clear hp I3
            go_wp2_with fail
            refine (HLX.out _ I4.out.1.1).mono ?_
            intro e x5 hp
            obtain ⟨rfl, I5⟩ := I4.out.val hp
            clear hp I4
            go_wp2_with fail
            refine (HRX.out _ I5.out.1.1).mono ?_
            intro e x6 hp
            obtain ⟨rfl, I6⟩ := I5.out.val hp
            clear hp I5
            go_wp2_with fail
            refine (HRR.out.1 _).mono ?_
            rintro e x7 ⟨rfl, rfl⟩
            go_wp2_with fail
            refine (HLS.out _ I6.out.1.1 (I6.out.1.tab HT2.out)).mono ?_
            rintro e x8 ⟨ls, rfl, ho, hb⟩
            have I7 := Lib.hid (I6.out.below hb)
            have HO := Lib.hid (own_mono ho (Nat.zero_le _))
            clear ho hb I6
            go_wp2_with fail
            refine (HSA.out _ _ I7.out HO.out).mono ?_
            intro e x9 hp
            obtain ⟨rfl, I8⟩ := I7.out.val hp
            clear hp I7 HO
            go_wp2_with fail
            go_roundw
            case rel => exact ⟨j + 1, _, by go_num, rfl, by omega, Lib.hid ⟨L, I8.out, HRL.out⟩⟩
            case measure => simp [intOf]; omega
    · have e : j = zs.length := by omega
      have HTQ := Lib.hid (by obtain ⟨L, h, _⟩ := HI.out; exact h.1.tab HT2.out : TabW wr)
      have HBQ := Lib.hid (by obtain ⟨L, h, _⟩ := HI.out; exact h.1.2.1 : Below w2.heap.size w2 wr)
      clear e
      go_wp2_with fail
      refine (HL.out _ HTQ.out).mono ?_
      rintro e w4 ⟨rfl, hb⟩
      have HB4 := Lib.hid (HBQ.out.trans (hb.mono HBQ.out.size))
      clear hb
      go_wp2
      go_ret
      exact HPO.out _ _ ⟨rfl, HB4.out⟩
end Go.Proofs.YtoakpmbiplmpbaaDoor.Sl
