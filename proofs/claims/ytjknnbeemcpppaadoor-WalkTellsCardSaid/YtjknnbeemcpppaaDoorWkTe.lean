/-
  Walks: what WalkTells asks, walked. Not a statement of the seat.
-/
import Derived.Test.YtjknnbeemcpppaaDoorWkLives
import Derived.Test.YtjknnbeemcpppaaDoorWkV
import Derived.Test.YtjknnbeemcpppaaDoorWk9
import Derived.Test.YtjknnbeemcpppaaDoorPkSame
namespace Go.Proofs.YtjknnbeemcpppaaDoor.Wk
open Go.ChangeShapes Go.WideShapes Go.ChangeAt Go.RowKit Base Nu Pk F
set_option maxRecDepth 100000 in
set_option maxHeartbeats 8000000 in
theorem tells_any {v u : Value} {l m : List E} (w : World) (hl : EL w v l) (hm : EL w u m) (hol : OkL l) (_hom : OkL m) (hp : Pow w) : Calls Tryd.prog 3 #[v, u] w (BoolP true w) := by
  obtain ⟨p, c, hv, _⟩ := eds_at hl.1 rfl
  obtain ⟨q, d, hu, _⟩ := eds_at hm.1 rfl
  by_cases h1 : l.length ≤ 60
  case neg =>
    have hgt : (60 : Int) < (l.length : Int) := by omega
    subst hv hu
    clear hl hm
    generalize l.length = n at hgt ⊢
    generalize m.length = k
    go_enter Tryd.func3, Tryd.ntmps3
    go_wp2_with fail
    refine (lives _ hp).mono ?_
    rintro e w1 ⟨rfl, hb⟩
    have HF := Lib.hid hb
    clear hb
    go_wp2
    go_ret
    exact ⟨rfl, HF.out⟩
  by_cases h2 : m.length ≤ 60
  case neg =>
    have hgt : (60 : Int) < (m.length : Int) := by omega
    have hng : ¬ (60 : Int) < (l.length : Int) := by omega
    subst hv hu
    clear hl hm h1
    generalize l.length = n at hng ⊢
    generalize m.length = k at hgt ⊢
    go_enter Tryd.func3, Tryd.ntmps3
    go_wp2_with fail
    refine (lives _ hp).mono ?_
    rintro e w1 ⟨rfl, hb⟩
    have HF := Lib.hid hb
    clear hb
    go_wp2
    go_ret
    exact ⟨rfl, HF.out⟩
  have hEL : ∀ X, Below w.heap.size w X → EL X v l := fun X hX => hl.below hX
  have hEM : ∀ X, Below w.heap.size w X → EL X u m := fun X hX => hm.below hX
  have H1 : Hid (∀ X, Below w.heap.size w X → Calls Tryd.prog 6 #[v] X (BoolP (closedL l) X)) := Lib.hid fun X hX => closed_any X (hEL X hX).1 (by omega)
  have H2 : Hid (∀ X, Below w.heap.size w X → Calls Tryd.prog 7 #[v] X (BoolP (closedL l) X)) := Lib.hid fun X hX => rclosed_any X (hEL X hX).1 (by omega)
  have H3 : Hid (∀ X, Below w.heap.size w X → Calls Tryd.prog 8 #[v] X (BoolP (simpleL l) X)) := Lib.hid fun X hX => simple_any X (hEL X hX).1 rfl (by omega) (inE_of hol)
  have H4 : Hid (∀ X, Below w.heap.size w X → Calls Tryd.prog 9 #[v] X (BoolP (simpleL l) X)) := Lib.hid fun X hX => rsimple_any X (hEL X hX).1 rfl (by omega) (hEL X hX).2
  have H5 : Hid (∀ X, Below w.heap.size w X → Calls Tryd.prog 10 #[v] X (NumP (maskL l) X)) := Lib.hid fun X hX => mask_any X (hEL X hX).1 rfl (by omega)
  have H6 : Hid (∀ X, Below w.heap.size w X → Calls Tryd.prog 11 #[v] X (NumP (maskL l) X)) := Lib.hid fun X hX => rmask_any X (hEL X hX).1 rfl (by omega)
  have H7 : Hid (∀ X, Below w.heap.size w X → Calls Tryd.prog 12 #[v, u] X (BoolP (lessW l m) X)) := Lib.hid fun X hX => wless_any X (hEL X hX).1 (hEM X hX).1 (by omega) (by omega)
  have H8 : Hid (∀ X, Below w.heap.size w X → Calls Tryd.prog 13 #[v, u] X (BoolP (lessW l m) X)) := Lib.hid fun X hX => rless_any X (hEL X hX).1 (hEM X hX).1 (by omega) (by omega)
  have H9 : Hid (∀ X, Below w.heap.size w X → Calls Tryd.prog 14 #[v, u] X (BoolP (decide (l = m)) X)) := Lib.hid fun X hX => same_wk X (hEL X hX).1 (hEM X hX).1
  have H10 : Hid (∀ X, Below w.heap.size w X → Calls Tryd.prog 15 #[v, u] X (BoolP (decide (l = m)) X)) := Lib.hid fun X hX => rsame_wk X (hEL X hX).1 (hEM X hX).1
  have H11 : Hid (∀ X, Below w.heap.size w X → Calls Tryd.prog 16 #[v] X (ELP (turnL ltE l) X)) := Lib.hid fun X hX => k_turn (hEL X hX) (by omega) rfl
  have H12 : Hid (∀ X, Below w.heap.size w X → Calls Tryd.prog 17 #[v] X (EdsNew (turnL ltE l) X)) := Lib.hid fun X hX => rturn_any X (hEL X hX).1 rfl (by omega) (hEL X hX).2
  have H13 : Hid (∀ X a b, Eds X a (turnL ltE l) → Eds X b (turnL ltE l) → Calls Tryd.prog 15 #[a, b] X (BoolP true X)) := Lib.hid fun X a b ha hb => by
    have := rsame_wk X ha hb
    rwa [decide_eq_true rfl] at this
  have H14 : Hid (∀ X, Below w.heap.size w X → Calls Tryd.prog 18 #[v] X (TextPost (textL l) X)) := Lib.hid fun X hX => text_wk X (hEL X hX).1 rfl (by omega) hol (hp.below hX)
  have H15 : Hid (∀ X, Below w.heap.size w X → Calls Tryd.prog 19 #[v] X (TextPost (textL l) X)) := Lib.hid fun X hX => rtext_wk X (hEL X hX).1 rfl (by omega) hol
  have HP : Hid (∀ X, Below w.heap.size w X → Pow X) := Lib.hid fun X hX => hp.below hX
  have hng : ¬ (60 : Int) < (l.length : Int) := by omega
  have hng2 : ¬ (60 : Int) < (m.length : Int) := by omega
  subst hv hu
  clear hl hm h1 h2 hEL hEM hol hp
  generalize closedL l = r1 at H1 H2
  generalize simpleL l = r3 at H3 H4
  generalize maskL l = r5 at H5 H6
  generalize lessW l m = r7 at H7 H8
  generalize decide (l = m) = r9 at H9 H10
  generalize turnL ltE l = tl at H11 H12 H13
  generalize textL l = tx at H14 H15
  generalize l.length = n at *
  generalize m.length = k at *
  have B0 : Hid (Below w.heap.size w w) := Lib.hid (Below.refl _ _)
  go_enter Tryd.func3, Tryd.ntmps3
  go_wp2_with fail
  refine (H1.out _ B0.out).mono ?_
  rintro e w1 ⟨rfl, hb⟩
  have B1 := Lib.hid (B0.out.trans (hb.mono B0.out.size))
  clear hb H1
  go_wp2_with fail
  refine (H2.out _ B1.out).mono ?_
  rintro e w2 ⟨rfl, hb⟩
  have B2 := Lib.hid (B1.out.trans (hb.mono B1.out.size))
  clear hb H2
  go_wp2_with fail
  refine (H3.out _ B2.out).mono ?_
  rintro e w3 ⟨rfl, hb⟩
  have B3 := Lib.hid (B2.out.trans (hb.mono B2.out.size))
  clear hb H3
  go_wp2_with fail
  refine (H4.out _ B3.out).mono ?_
  rintro e w4 ⟨rfl, hb⟩
  have B4 := Lib.hid (B3.out.trans (hb.mono B3.out.size))
  clear hb H4
  go_wp2_with fail
  refine (H5.out _ B4.out).mono ?_
  rintro e w5 ⟨rfl, hb⟩
  have B5 := Lib.hid (B4.out.trans (hb.mono B4.out.size))
  clear hb H5
  go_wp2_with fail
  refine (H6.out _ B5.out).mono ?_
  rintro e w6 ⟨rfl, hb⟩
  have B6 := Lib.hid (B5.out.trans (hb.mono B5.out.size))
  clear hb H6
  go_wp2_with fail
  refine (H7.out _ B6.out).mono ?_
  rintro e w7 ⟨rfl, hb⟩
  have B7 := Lib.hid (B6.out.trans (hb.mono B6.out.size))
  clear hb H7
  go_wp2_with fail
  refine (H8.out _ B7.out).mono ?_
  rintro e w8 ⟨rfl, hb⟩
  have B8 := Lib.hid (B7.out.trans (hb.mono B7.out.size))
  clear hb H8
  go_wp2_with fail
  refine (H9.out _ B8.out).mono ?_
  rintro e w9 ⟨rfl, hb⟩
  have B9 := Lib.hid (B8.out.trans (hb.mono B8.out.size))
  clear hb H9
  go_wp2_with fail
  refine (H10.out _ B9.out).mono ?_
  rintro e w10 ⟨rfl, hb⟩
  have B10 := Lib.hid (B9.out.trans (hb.mono B9.out.size))
  clear hb H10
  go_wp2_with fail
  refine (H11.out _ B10.out).mono ?_
  rintro e w11 ⟨p11, n11, c11, hm, rfl, hx, hb⟩
  have B11 := Lib.hid (B10.out.trans (hb.mono B10.out.size))
  have F11 := Lib.hid hx
  clear hb hx hm H11
  go_wp2_with fail
  refine (H12.out _ B11.out).mono ?_
  rintro e w12 ⟨⟨v12, rfl, hx⟩, hb⟩
  have B12 := Lib.hid (B11.out.trans (hb.mono B11.out.size))
  have F12 := Lib.hid (And.intro (F11.out.1.below hb) hx)
  clear hb hx H12 F11
  go_wp2_with fail
  refine (H13.out _ _ _ F12.out.1 F12.out.2).mono ?_
  rintro e w13 ⟨rfl, hb⟩
  have B13 := Lib.hid (B12.out.trans (hb.mono B12.out.size))
  clear hb F12 H13
  go_wp2_with fail
  refine (H14.out _ B13.out).mono ?_
  rintro e w14 ⟨rfl, hb⟩
  have B14 := Lib.hid (B13.out.trans (hb.mono B13.out.size))
  clear hb H14
  go_wp2_with fail
  refine (H15.out _ B14.out).mono ?_
  rintro e w15 ⟨rfl, hb⟩
  have B15 := Lib.hid (B14.out.trans (hb.mono B14.out.size))
  clear hb H15
  go_wp2_with fail
  refine (lives _ (HP.out _ B15.out)).mono ?_
  rintro e w16 ⟨rfl, hb⟩
  have B16 := Lib.hid (B15.out.trans (hb.mono B15.out.size))
  clear hb
  have HF := Lib.hid B16.out
  go_wp2
  go_ret
  exact ⟨rfl, HF.out⟩
end Go.Proofs.YtjknnbeemcpppaaDoor.Wk
