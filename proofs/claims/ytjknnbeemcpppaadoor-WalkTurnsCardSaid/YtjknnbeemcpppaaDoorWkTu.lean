/-
  Walks: what WalkTurns asks, walked. Not a statement of the seat.
-/
import Derived.Test.YtjknnbeemcpppaaDoorWkLives
import Derived.Test.YtjknnbeemcpppaaDoorWkV
import Derived.Test.YtjknnbeemcpppaaDoorWk9
import Derived.Test.YtjknnbeemcpppaaDoorPkSame
namespace Go.Proofs.YtjknnbeemcpppaaDoor.Wk
open Go.ChangeShapes Go.WideShapes Go.ChangeAt Go.RowKit Base Nu Pk F
theorem sort_turn (l : List E) : sortL (turnL ltE l) = sortL l := by
  have a := fold_put1 (turnL ltE l) [] List.Pairwise.nil
  have b := fold_put1 l [] List.Pairwise.nil
  refine rises_ext a.1 b.1 fun x => ?_
  exact (a.2 x).trans (by rw [turn_mem totL]; exact (b.2 x).symm)
theorem simple_turn (l : List E) : simpleL (turnL ltE l) = simpleL l := by
  unfold simpleL
  rw [decide_eq_decide]
  exact ((turn_perm totL (l := l)).map fun x => x.1).nodup_iff
set_option maxRecDepth 100000 in
set_option maxHeartbeats 8000000 in
theorem turns_any {v : Value} {l : List E} {i : Int} (w : World) (hl : EL w v l) (hol : OkL l) (hp : Pow w) : Calls Tryd.prog 4 #[v, .int .i64 i] w (BoolP true w) := by
  obtain ⟨p, c, hv, _⟩ := eds_at hl.1 rfl
  have HLV := Lib.hid (lives w hp)
  by_cases h1 : l.length ≤ 60
  case neg =>
    have hgt : (60 : Int) < (l.length : Int) := by omega
    subst hv
    clear hl
    generalize l.length = n at hgt ⊢
    go_enter Tryd.func4, Tryd.ntmps4
    go_wp2_with fail
    refine HLV.out.mono ?_
    rintro e w1 ⟨rfl, hb⟩
    have HF := Lib.hid hb
    clear hb HLV
    go_wp2
    go_ret
    exact ⟨rfl, HF.out⟩
  by_cases h2 : 0 ≤ i
  case neg =>
    have hng : ¬ (60 : Int) < (l.length : Int) := by omega
    have hi0 : i < 0 := by omega
    subst hv
    clear hl h1
    generalize l.length = n at hng ⊢
    go_enter Tryd.func4, Tryd.ntmps4
    go_wp2_with fail
    refine HLV.out.mono ?_
    rintro e w1 ⟨rfl, hb⟩
    have HF := Lib.hid hb
    clear hb HLV
    go_wp2
    go_ret
    exact ⟨rfl, HF.out⟩
  by_cases h3 : i < (l.length : Int)
  case neg =>
    have hng : ¬ (60 : Int) < (l.length : Int) := by omega
    have hi0 : ¬ i < 0 := by omega
    have hi1 : (l.length : Int) ≤ i := by omega
    subst hv
    clear hl h1
    generalize l.length = n at hng hi1 ⊢
    go_enter Tryd.func4, Tryd.ntmps4
    go_wp2_with fail
    refine HLV.out.mono ?_
    rintro e w1 ⟨rfl, hb⟩
    have HF := Lib.hid hb
    clear hb HLV
    go_wp2
    go_ret
    exact ⟨rfl, HF.out⟩
  obtain ⟨j, rfl⟩ := Int.eq_ofNat_of_zero_le h2
  have hj : j < l.length := by omega
  have hTL : (turnL ltE l).length = l.length := turn_len totL
  have hOT : OkL (turnL ltE l) := okL_of fun x hx => by
    obtain ⟨k, hk, e⟩ := List.mem_iff_getElem.1 ((turn_mem totL x).1 hx)
    have := hol k
    rw [List.getD_eq_getElem?_getD, List.getElem?_eq_getElem hk] at this
    rw [← e]; exact this
  have hEL : ∀ X, Below w.heap.size w X → EL X v l := fun X hX => hl.below hX
  have H1 : Hid (∀ X, Below w.heap.size w X → Calls Tryd.prog 16 #[v] X (ELP (turnL ltE l) X)) := Lib.hid fun X hX => k_turn (hEL X hX) (by omega) rfl
  have H2 : Hid (∀ X, Below w.heap.size w X → Calls Tryd.prog 20 #[v, .int .i64 (j : Int)] X (OwnP (rot l j) X)) := Lib.hid fun X hX => begun_any X (hEL X hX).1 rfl (by omega) (hEL X hX).2 (by omega)
  have H3 : Hid (∀ X a, EL X a (rot l j) → Calls Tryd.prog 16 #[a] X (ELP (turnL ltE l) X)) := Lib.hid fun X a ha => k_turn ha (by rw [rot_len (by omega)]; omega) (turn_rot totL (by omega))
  have H4 : Hid (∀ X a, EL X a (turnL ltE l) → Calls Tryd.prog 16 #[a] X (ELP (turnL ltE l) X)) := Lib.hid fun X a ha => k_turn ha (by omega) (turn_turn totL)
  have H5 : Hid (∀ X a b, EL X a (turnL ltE l) → EL X b (turnL ltE l) → Calls Tryd.prog 14 #[a, b] X (BoolP true X)) := Lib.hid fun X a b ha hb => k_same ha hb (decide_eq_true rfl)
  have H6 : Hid (∀ X a, EL X a (turnL ltE l) → Calls Tryd.prog 6 #[a] X (BoolP (closedL l) X)) := Lib.hid fun X a ha => k_closed ha (by omega) (closed_turn l)
  have H7 : Hid (∀ X, Below w.heap.size w X → Calls Tryd.prog 6 #[v] X (BoolP (closedL l) X)) := Lib.hid fun X hX => closed_any X (hEL X hX).1 (by omega)
  have H8 : Hid (∀ X a, EL X a (turnL ltE l) → Calls Tryd.prog 8 #[a] X (BoolP (simpleL l) X)) := Lib.hid fun X a ha => by rw [← simple_turn l]; exact simple_any X ha.1 rfl (by omega) (inE_of hOT)
  have H9 : Hid (∀ X, Below w.heap.size w X → Calls Tryd.prog 8 #[v] X (BoolP (simpleL l) X)) := Lib.hid fun X hX => simple_any X (hEL X hX).1 rfl (by omega) (inE_of hol)
  have H10 : Hid (∀ X a, EL X a (turnL ltE l) → Calls Tryd.prog 10 #[a] X (NumP (maskL l) X)) := Lib.hid fun X a ha => k_mask ha (by omega) (mask_perm (turn_mem totL))
  have H11 : Hid (∀ X, Below w.heap.size w X → Calls Tryd.prog 10 #[v] X (NumP (maskL l) X)) := Lib.hid fun X hX => mask_any X (hEL X hX).1 rfl (by omega)
  have H12 : Hid (∀ X a, Below w.heap.size w X → EL X a (turnL ltE l) → Calls Tryd.prog 12 #[v, a] X (BoolP false X)) := Lib.hid fun X a hX ha => k_less (hEL X hX) ha (by omega) (by omega) (by rw [lessW_same hTL.symm]; exact turn_not totL)
  have H13 : Hid (∀ X a, EL X a (turnL ltE l) → Calls Tryd.prog 21 #[a] X (EdsNew (sortL l) X)) := Lib.hid fun X a ha => by rw [← sort_turn l]; exact sortE_any X ha.1 (by omega)
  have H14 : Hid (∀ X, Below w.heap.size w X → Calls Tryd.prog 21 #[v] X (EdsNew (sortL l) X)) := Lib.hid fun X hX => sortE_any X (hEL X hX).1 (by omega)
  have H15 : Hid (∀ X a b, Eds X a (sortL l) → Eds X b (sortL l) → Calls Tryd.prog 15 #[a, b] X (BoolP true X)) := Lib.hid fun X a b ha hb => by
    have := rsame_wk X ha hb
    rwa [decide_eq_true rfl] at this
  have HRL : Hid ((rot l j).length ≤ 1000000) := Lib.hid (by rw [rot_len (by omega)]; omega)
  have HTN : Hid ((turnL ltE l).length = l.length) := Lib.hid hTL
  have hng : ¬ (60 : Int) < (l.length : Int) := by omega
  have hi0 : ¬ (j : Int) < 0 := by omega
  have hi1 : ¬ (l.length : Int) ≤ (j : Int) := by omega
  subst hv
  clear hl h1 h2 h3 hEL hol hp hTL hOT hj
  generalize closedL l = r1 at H6 H7
  generalize simpleL l = r3 at H8 H9
  generalize maskL l = r5 at H10 H11
  generalize sortL l = sl at H13 H14 H15
  generalize rot l j = rl at H2 H3 HRL
  generalize turnL ltE l = tl at *
  generalize l.length = n at *
  go_enter Tryd.func4, Tryd.ntmps4
  go_wp2_with fail
  refine HLV.out.mono ?_
  rintro e w1 ⟨rfl, hb⟩
  have B1 := Lib.hid hb
  clear hb HLV
  go_wp2_with fail
  refine (H1.out _ B1.out).mono ?_
  rintro e w2 ⟨px, nx, cx, hx, rfl, hex, hb⟩
  rw [HTN.out] at hx
  subst hx
  have FX := Lib.hid hex
  have B2 := Lib.hid (B1.out.trans (hb.mono B1.out.size))
  clear hb hex H1
  go_wp2_with fail
  refine (H2.out _ B2.out).mono ?_
  intro e w3 hq
  obtain ⟨vg, rfl, hg1, hg2, hb⟩ := hq.new HRL.out
  have FG : Hid (EL w3 vg rl) := Lib.hid ⟨hg1, hg2⟩
  have FX3 := Lib.hid (FX.out.below hb)
  have B3 := Lib.hid (B2.out.trans (hb.mono B2.out.size))
  clear hb hq hg1 hg2 H2 FX
  go_wp2_with fail
  refine (H3.out _ _ FG.out).mono ?_
  rintro e w4 ⟨py, ny, cy, hy, rfl, hey, hb⟩
  rw [HTN.out] at hy
  subst hy
  have FX4 := Lib.hid (FX3.out.below hb)
  have FY4 := Lib.hid hey
  have B4 := Lib.hid (B3.out.trans (hb.mono B3.out.size))
  clear hb hey H3 FG FX3
  go_wp2_with fail
  refine (H4.out _ _ FX4.out).mono ?_
  rintro e w5 ⟨pz, nz, cz, hz, rfl, hez, hb⟩
  rw [HTN.out] at hz
  subst hz
  have FZ5 := Lib.hid hez
  have FX5 := Lib.hid (FX4.out.below hb)
  have FY5 := Lib.hid (FY4.out.below hb)
  have B5 := Lib.hid (B4.out.trans (hb.mono B4.out.size))
  clear hb hez H4 FX4 FY4
  go_wp2_with fail
  refine (H5.out _ _ _ FZ5.out FX5.out).mono ?_
  rintro e w6 ⟨rfl, hb⟩
  have FX6 := Lib.hid (FX5.out.below hb)
  have FY6 := Lib.hid (FY5.out.below hb)
  have B6 := Lib.hid (B5.out.trans (hb.mono B5.out.size))
  clear hb FX5 FY5 FZ5
  go_wp2_with fail
  refine (H5.out _ _ _ FX6.out FY6.out).mono ?_
  rintro e w7 ⟨rfl, hb⟩
  have FX7 := Lib.hid (FX6.out.below hb)
  have B7 := Lib.hid (B6.out.trans (hb.mono B6.out.size))
  clear hb FX6 FY6 H5
  go_wp2_with fail
  refine (H6.out _ _ FX7.out).mono ?_
  rintro e w8 ⟨rfl, hb⟩
  have FX8 := Lib.hid (FX7.out.below hb)
  have B8 := Lib.hid (B7.out.trans (hb.mono B7.out.size))
  clear hb FX7 H6
  go_wp2_with fail
  refine (H7.out _ B8.out).mono ?_
  rintro e w9 ⟨rfl, hb⟩
  have FX9 := Lib.hid (FX8.out.below hb)
  have B9 := Lib.hid (B8.out.trans (hb.mono B8.out.size))
  clear hb FX8 H7
  go_wp2_with fail
  refine (H8.out _ _ FX9.out).mono ?_
  rintro e w10 ⟨rfl, hb⟩
  have FX10 := Lib.hid (FX9.out.below hb)
  have B10 := Lib.hid (B9.out.trans (hb.mono B9.out.size))
  clear hb FX9 H8
  go_wp2_with fail
  refine (H9.out _ B10.out).mono ?_
  rintro e w11 ⟨rfl, hb⟩
  have FX11 := Lib.hid (FX10.out.below hb)
  have B11 := Lib.hid (B10.out.trans (hb.mono B10.out.size))
  clear hb FX10 H9
  go_wp2_with fail
  refine (H10.out _ _ FX11.out).mono ?_
  rintro e w12 ⟨rfl, hb⟩
  have FX12 := Lib.hid (FX11.out.below hb)
  have B12 := Lib.hid (B11.out.trans (hb.mono B11.out.size))
  clear hb FX11 H10
  go_wp2_with fail
  refine (H11.out _ B12.out).mono ?_
  rintro e w13 ⟨rfl, hb⟩
  have FX13 := Lib.hid (FX12.out.below hb)
  have B13 := Lib.hid (B12.out.trans (hb.mono B12.out.size))
  clear hb FX12 H11
  go_wp2_with fail
  refine (H12.out _ _ B13.out FX13.out).mono ?_
  rintro e w14 ⟨rfl, hb⟩
  have FX14 := Lib.hid (FX13.out.below hb)
  have B14 := Lib.hid (B13.out.trans (hb.mono B13.out.size))
  clear hb FX13 H12
  go_wp2_with fail
  refine (H13.out _ _ FX14.out).mono ?_
  rintro e w15 ⟨⟨v15, rfl, hs⟩, hb⟩
  have FS := Lib.hid hs
  have B15 := Lib.hid (B14.out.trans (hb.mono B14.out.size))
  clear hb hs FX14 H13
  go_wp2_with fail
  refine (H14.out _ B15.out).mono ?_
  rintro e w16 ⟨⟨v16, rfl, hs⟩, hb⟩
  have FT := Lib.hid (And.intro (FS.out.below hb) hs)
  have B16 := Lib.hid (B15.out.trans (hb.mono B15.out.size))
  clear hb hs FS H14
  go_wp2_with fail
  refine (H15.out _ _ _ FT.out.1 FT.out.2).mono ?_
  rintro e w17 ⟨rfl, hb⟩
  have HF := Lib.hid (B16.out.trans (hb.mono B16.out.size))
  clear hb FT H15
  go_wp2
  go_ret
  exact ⟨rfl, HF.out⟩
end Go.Proofs.YtjknnbeemcpppaaDoor.Wk
