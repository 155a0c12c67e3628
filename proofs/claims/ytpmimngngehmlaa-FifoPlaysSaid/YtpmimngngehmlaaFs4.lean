/-
  Contracts of stacks: Pop, List. Not a statement of the seat.
-/
import Derived.Test.YtpmimngngehmlaaFs3
namespace Go.Proofs.Ytpmimngngehmlaa.F
open Go.ChangeShapes Go.WideShapes Go.ChangeAt Go.RowKit Base Go.Sort
/-- What Pop leaves: the top is gone. -/
def PopS (b : Nat) (o : Option Nat) (room : Nat) (xs : List Int) (w : World) (e : Ending) (w' : World) : Prop := SPost b o room xs.dropLast (fstV xs.reverse) w e w'
set_option maxHeartbeats 1000000 in
theorem fspop {w : World} {b : Nat} {o : Option Nat} {room : Nat} {xs : List Int} (h : SAt w b o room xs) : Calls Try.prog 45 #[.pointer (some ⟨b, 0, none⟩)] w (PopS b o room xs w) := by
  have HF := Lib.hid (fsfirst h)
  rcases List.eq_nil_or_concat xs with rfl | ⟨ys, x, rfl⟩
  · have KEY : Hid (∀ q, PopS b o room [] w (.returned (.tuple #[.int .i64 0, .bool false])) (w.drewN q)) := Lib.hid fun q => ⟨rfl, o, h.below (below_drewN (Below.refl _ _) q), .inl rfl, (Fr.refl _ w).drewN q⟩
    unfold fstV at HF
    simp only [List.reverse_nil, List.headD_nil, List.isEmpty_nil, Bool.not_true] at HF
    generalize PopS b o room [] w = Post at KEY ⊢
    clear h
    go_enter Try.func45, Try.ntmps45
    go_wp2_with fail
    refine HF.out.mono ?_
    rintro e w1 ⟨rfl, n, rfl⟩
    go_wp2
    exact KEY.out _
  · rw [List.concat_eq_append] at h HF ⊢
    have HP : Hid (∀ n, Calls Try.prog 98 #[.pointer (some ⟨b, 0, none⟩)] (w.drewN n) (SPost b o room ys (.tuple #[]) (w.drewN n))) := Lib.hid fun n => fsdrop (h.below (below_drewN (Below.refl _ _) n))
    unfold PopS
    unfold fstV at HF ⊢
    simp only [List.reverse_append, List.reverse_cons, List.reverse_nil, List.nil_append, List.cons_append, List.headD_cons, List.isEmpty_cons, Bool.not_false, List.dropLast_concat] at HF ⊢
    clear h
    go_enter Try.func45, Try.ntmps45
    go_wp2_with fail
    refine HF.out.mono ?_
    rintro e w1 ⟨rfl, n, rfl⟩
    go_wp2_with fail
    refine (HP.out _).mono ?_
    rintro e w1 ⟨rfl, h1⟩
    have HH := Lib.hid h1
    clear h1
    go_wp2
    go_ret2
    exact ⟨rfl, HH.out⟩
theorem rev_empty (p : Option Addr) (c : Nat) (w : World) : Calls Try.prog 116 #[.slice p 0 c] w fun e w' => e = .returned (.tuple #[]) ∧ w' = w := Try.slices_Reverse_int_empty p c w
set_option maxHeartbeats 1000000 in
theorem fsdown {w : World} {b : Nat} {o : Option Nat} {room : Nat} {xs : List Int} (h : SAt w b o room xs) : Calls Try.prog 101 #[.pointer (some ⟨b, 0, none⟩)] w (OwnNew xs.reverse w) := by
  have hr := h.1
  have hl := h.2.1
  obtain ⟨p, c, ⟨c0, c1⟩, f0, hown, ho, hb⟩ := h.open_
  have HC : Hid (Calls Try.prog 115 #[.slice p xs.length c] w (OwnNew xs w)) := Lib.hid (by
    rcases hown.form with ⟨rfl, hv⟩ | ⟨g, cap, hv, _, _, _⟩
    · injection hv with e1 _ e3
      subst e1 e3
      exact (Try.slices_Clone_int_nil 0 0 w).mono fun e w' ⟨h1, h2⟩ => ⟨_, h1, Lst.OwnI.nil _ _, by rw [h2]; exact Below.refl _ _⟩
    · injection hv with e1 _ e3
      subst e1 e3
      rcases hown.ints (by omega) with ⟨_, rfl⟩ | ⟨g', o', c', hv', _, _, _, hcell⟩
      · exact (Try.slices_Clone_int_zero ⟨g, 0, none⟩ c w).mono fun e w' ⟨v, h1, h2, _, h4⟩ => ⟨v, h1, h2, h4⟩
      · injection hv' with f1 _ _
        injection f1 with f1
        injection f1 with f1 f4
        subst f1 f4
        refine (Try.slices_Clone_int g 0 xs.length c xs w (Nat.le_refl _) (by omega) hcell).mono fun e w' ⟨v, h1, h2, _, h4⟩ => ⟨v, h1, ?_, h4⟩
        rw [List.take_length] at h2
        exact h2)
  have HR : Hid (∀ (w' : World) (v : Value), Lst.OwnI w.heap.size w' v xs → Below w.heap.size w w' → Calls Try.prog 116 #[v] w' fun e w'' => e = .returned (.tuple #[]) ∧ Lst.OwnI w.heap.size w'' v xs.reverse ∧ Below w.heap.size w w'') := Lib.hid fun w' v h1 h2 => by
    rcases h1.form with ⟨rfl, rfl⟩ | ⟨g, cap, rfl, hB, _, _⟩
    · exact (rev_empty none 0 w').mono fun e w'' ⟨h3, h4⟩ => ⟨h3, by rw [h4]; exact Lst.OwnI.nil _ _, by rw [h4]; exact h2⟩
    · refine (Try.slices_Reverse_int g 0 cap xs w' h1.holds (by omega)).mono fun e w'' ⟨h3, n, h4⟩ => ⟨h3, by rw [h4]; exact h1.reversed, ?_⟩
      rcases h1.2 with ⟨hv, _⟩ | ⟨g', cap', cur, hv, _, hg, _⟩
      · cases hv
      · injection hv with e1 _ _
        injection e1 with e1
        injection e1 with e1
        subst e1
        rw [h4]
        exact Lst.reversed_below _ hg h2 hB
  clear h hown ho hb
  generalize xs.length = n at *
  go_enter Try.func101, Try.ntmps101
  go_wp2_with fail
  refine HC.out.mono ?_
  rintro e w1 ⟨v, rfl, h1, h2⟩
  have HR1 := Lib.hid (HR.out _ _ h1 h2)
  clear h1 h2
  go_wp2_with fail
  refine HR1.out.mono ?_
  rintro e w2 ⟨rfl, h1, h2⟩
  have H1 := Lib.hid h1
  have H2 := Lib.hid h2
  clear h1 h2
  go_wp2
  go_ret
  exact ⟨v, rfl, H1.out, H2.out⟩
theorem fslist {w : World} {b : Nat} {o : Option Nat} {room : Nat} {xs : List Int} (h : SAt w b o room xs) : Calls Try.prog 53 #[.pointer (some ⟨b, 0, none⟩)] w (OwnNew xs.reverse w) := by
  have HS := Lib.hid (fsdown h)
  clear h
  go_enter Try.func53, Try.ntmps53
  go_wp2_with fail
  refine HS.out.mono ?_
  rintro e w1 ⟨v, rfl, h1, h2⟩
  have H1 := Lib.hid h1
  have H2 := Lib.hid h2
  clear h1 h2
  go_wp2
  go_ret
  exact ⟨v, rfl, H1.out, H2.out⟩
end Go.Proofs.Ytpmimngngehmlaa.F
