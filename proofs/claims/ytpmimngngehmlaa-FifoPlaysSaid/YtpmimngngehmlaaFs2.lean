/-
  Contracts of stacks: New, Len, Room, First, Push, Pop, List. Not a statement of the seat.
-/
import Derived.Test.YtpmimngngehmlaaFq4
import Derived.Test.YtpmimngngehmlaaFs1
namespace Go.Proofs.Ytpmimngngehmlaa.F
open Go.ChangeShapes Go.WideShapes Go.ChangeAt Go.RowKit Base Go.Sort
/-- Block b is a stack of that room with xs, the last one on top, which lie in block o. -/
def SAt (w : World) (b : Nat) (o : Option Nat) (room : Nat) (xs : List Int) : Prop :=
  room ≤ 65536 ∧ xs.length ≤ room ∧ ∃ v, w.heap[b]? = some (.cells #[v, .int .i64 (room : Int)] 133) ∧ Lst.OwnI 0 w v xs ∧ v.ownBlock = o
theorem neSt : 133 ≠ 3 := by decide
theorem SAt.lt {w : World} {b : Nat} {o : Option Nat} {room : Nat} {xs : List Int} (h : SAt w b o room xs) : b < w.heap.size ∧ ∀ g, o = some g → g < w.heap.size ∧ g ≠ b := by
  obtain ⟨_, _, v, hb, hown, rfl⟩ := h
  refine ⟨heap_lt hb, fun g hg => ⟨(World.ownsRow.lt hown g hg).2, fun e => ?_⟩⟩
  have := own_ne hown hb neSt
  rw [e] at hg
  exact this hg
theorem SAt.fr {w w' : World} {F : Nat → Prop} {b : Nat} {o : Option Nat} {room : Nat} {xs : List Int} (h : SAt w b o room xs) (hf : Fr F w w') (hb : ¬ F b) (ho : ∀ g, o = some g → ¬ F g) : SAt w' b o room xs := by
  have hl := h.lt
  obtain ⟨h1, h2, v, hv, hown, rfl⟩ := h
  refine ⟨h1, h2, v, (hf.block hl.1 hb).trans hv, ?_, rfl⟩
  refine ⟨hown.1, ?_⟩
  rcases hown.2 with hn | ⟨g, cap, cur, rfl, hB, hg, rest⟩
  · exact .inl hn
  · exact .inr ⟨g, cap, cur, rfl, hB, (hf.block (heap_lt hg) (ho g rfl)).trans hg, rest⟩
theorem SAt.below {w w' : World} {b : Nat} {o : Option Nat} {room : Nat} {xs : List Int} (h : SAt w b o room xs) (hb : Below w.heap.size w w') : SAt w' b o room xs :=
  h.fr (Fr.of_below (F := fun _ => False) hb) (fun e => e) (fun _ _ e => e)
theorem SAt.open_ {w : World} {b : Nat} {o : Option Nat} {room : Nat} {xs : List Int} (h : SAt w b o room xs) : ∃ p c, (w.cell? ⟨b, 0, none⟩ = some (.slice p xs.length c) ∧ w.cell? ⟨b, 1, none⟩ = some (.int .i64 (room : Int))) ∧ w.frozen? ⟨b, 0, none⟩ = false ∧ Lst.OwnI 0 w (.slice p xs.length c) xs ∧ (Value.slice p xs.length c).ownBlock = o ∧ w.heap[b]? = some (.cells #[.slice p xs.length c, .int .i64 (room : Int)] 133) := by
  obtain ⟨_, _, v, hb, hown, ho⟩ := h
  obtain ⟨p, c, rfl⟩ : ∃ p c, v = .slice p xs.length c := by
    rcases hown.2 with ⟨hv, h0⟩ | ⟨g, cap, cur, hv, _⟩
    · exact ⟨none, 0, by rw [hv, h0]⟩
    · exact ⟨_, _, hv⟩
  exact ⟨p, c, by simp [World.cell?, hb], by simp [World.frozen?, hb], hown, ho, hb⟩
/-- What New leaves. -/
def NewS (n : Int) (w : World) (e : Ending) (w' : World) : Prop := e = .returned (.pointer (some ⟨w.heap.size, 0, none⟩)) ∧ SAt w' w.heap.size none (roomOf n) [] ∧ Below w.heap.size w w'
theorem fsnew (n : Int) (w : World) : Calls Try.prog 38 #[.int .i64 n] w (NewS n w) := by
  have HB := Lib.hid (fbounded n w)
  have KEY : Hid (NewS n w (.returned (.pointer (some ⟨w.heap.size, 0, none⟩))) (w.alloc (.cells #[.slice none 0 0, .int .i64 ((roomOf n : Nat) : Int)] 133))) := Lib.hid
    ⟨rfl, ⟨roomOf_le n, Nat.zero_le _, .slice none 0 0, heap_alloc_at _ _ _ rfl, Lst.OwnI.nil _ _, rfl⟩, (Below.refl _ _).alloc (Nat.le_refl _) _⟩
  generalize NewS n w = Post at KEY ⊢
  go_enter Try.func38, Try.ntmps38
  go_wp2_with fail
  refine HB.out.mono ?_
  rintro e w1 ⟨rfl, rfl⟩
  go_wp2
  exact KEY.out
theorem fssize {w : World} {b : Nat} {o : Option Nat} {room : Nat} {xs : List Int} (h : SAt w b o room xs) : Calls Try.prog 99 #[.pointer (some ⟨b, 0, none⟩)] w fun e w' => e = .returned (.int .i64 (xs.length : Int)) ∧ w = w' := by
  obtain ⟨p, c, ⟨c0, c1⟩, _⟩ := h.open_
  clear h
  go_enter Try.func99, Try.ntmps99
  go_wp2
  go_ret
  exact ⟨rfl, rfl⟩
theorem fslen {w : World} {b : Nat} {o : Option Nat} {room : Nat} {xs : List Int} (h : SAt w b o room xs) : Calls Try.prog 49 #[.pointer (some ⟨b, 0, none⟩)] w fun e w' => e = .returned (.int .i64 (xs.length : Int)) ∧ w = w' := by
  have HS := Lib.hid (fssize h)
  go_enter Try.func49, Try.ntmps49
  go_wp2_with fail
  refine HS.out.mono ?_
  rintro e w1 ⟨rfl, rfl⟩
  go_wp2
  go_ret
  exact ⟨rfl, rfl⟩
theorem fslen_nil (w : World) : Calls Try.prog 49 #[.pointer none] w fun e w' => e = .returned (.int .i64 0) ∧ w = w' := by
  go_enter Try.func49, Try.ntmps49
  go_wp2
  go_ret
  exact ⟨rfl, rfl⟩
theorem fsproom {w : World} {b : Nat} {o : Option Nat} {room : Nat} {xs : List Int} (h : SAt w b o room xs) : Calls Try.prog 100 #[.pointer (some ⟨b, 0, none⟩)] w (IntDrew ((room : Int) - (xs.length : Int)) w) := by
  have h1 := h.1
  have h2 := h.2.1
  obtain ⟨p, c, ⟨c0, c1⟩, _⟩ := h.open_
  have e1 : IntKind.i64.wrap ((room : Int) - (xs.length : Int)) = (room : Int) - (xs.length : Int) := by rw [IntKind.wrap_i64]; omega
  clear h
  go_enter Try.func100, Try.ntmps100
  go_wp2
  go_quiet (fail)
  go_wp2
  go_ret
  exact ⟨rfl, _, rfl⟩
theorem fsroom {w : World} {b : Nat} {o : Option Nat} {room : Nat} {xs : List Int} (h : SAt w b o room xs) : Calls Try.prog 51 #[.pointer (some ⟨b, 0, none⟩)] w (IntDrew ((room : Int) - (xs.length : Int)) w) := by
  have HS := Lib.hid (fsproom h)
  go_enter Try.func51, Try.ntmps51
  go_wp2_with fail
  refine HS.out.mono ?_
  rintro e w1 ⟨rfl, n, rfl⟩
  go_wp2
  go_ret
  exact ⟨rfl, _, rfl⟩
theorem fsroom_nil (w : World) : Calls Try.prog 51 #[.pointer none] w (IntDrew 0 w) := by
  go_enter Try.func51, Try.ntmps51
  go_wp2
  go_ret
  exact ⟨rfl, 0, rfl⟩
theorem fstop {w : World} {b : Nat} {o : Option Nat} {room : Nat} {xs : List Int} {x : Int} (h : SAt w b o room (xs ++ [x])) : Calls Try.prog 97 #[.pointer (some ⟨b, 0, none⟩)] w fun e w' => e = .returned (.int .i64 x) ∧ ∃ n, w' = w.drewN n := by
  have h1 := h.1
  have h2 := h.2.1
  obtain ⟨p, c, ⟨c0, c1⟩, _, hown, _⟩ := h.open_
  rcases hown.form with ⟨hx, _⟩ | ⟨g, cap, hv, _, hg, hc⟩
  · simp at hx
  · have hint := hown.ints (by omega)
    rcases hint with ⟨_, hx⟩ | ⟨g', o', c', hv', _, _, _, hcell⟩
    · simp at hx
    · have hx := hcell xs.length (by simp)
      injection hv with e1 e2 e3
      injection hv' with f1 f2 f3
      rw [e1] at f1
      injection f1 with f1
      injection f1 with f1 f4
      subst f1 f4
      rw [List.length_append, List.length_singleton] at c0 h2
      simp only [List.getD_eq_getElem?_getD, List.getElem?_append_right (Nat.le_refl _), Nat.sub_self, List.getElem?_cons_zero, Option.getD_some, Nat.zero_add] at hx
      subst e1
      generalize xs.length = n at *
      clear h hown hcell hc
      go_enter Try.func97, Try.ntmps97
      go_wp2
      go_quiet (fail)
      go_wp2
      go_ret
      exact ⟨rfl, _, rfl⟩
theorem fsfirst {w : World} {b : Nat} {o : Option Nat} {room : Nat} {xs : List Int} (h : SAt w b o room xs) : Calls Try.prog 44 #[.pointer (some ⟨b, 0, none⟩)] w fun e w' => e = .returned (fstV xs.reverse) ∧ ∃ n, w' = w.drewN n := by
  have HL := Lib.hid (fslen h)
  rcases List.eq_nil_or_concat xs with rfl | ⟨ys, x, rfl⟩
  · clear h
    go_enter Try.func44, Try.ntmps44
    go_wp2_with fail
    refine HL.out.mono ?_
    rintro e w1 ⟨rfl, rfl⟩
    go_wp2
    go_ret2
    exact ⟨rfl, 0, rfl⟩
  · rw [List.concat_eq_append] at h HL ⊢
    have HT := Lib.hid (fstop h)
    have hne : (((ys ++ [x]).length : Int) == 0) = false := by rw [beq_eq_false_iff_ne]; simp; omega
    unfold fstV
    simp only [List.reverse_append, List.reverse_cons, List.reverse_nil, List.nil_append, List.cons_append, List.headD_cons, List.isEmpty_cons, Bool.not_false]
    generalize (ys ++ [x]).length = m at HL hne
    clear h
    go_enter Try.func44, Try.ntmps44
    go_wp2_with fail
    refine HL.out.mono ?_
    rintro e w1 ⟨rfl, rfl⟩
    go_wp2_with fail
    refine HT.out.mono ?_
    rintro e w1 ⟨rfl, n, rfl⟩
    go_wp2
    go_ret2
    exact ⟨rfl, _, rfl⟩
theorem fsfirst_nil (w : World) : Calls Try.prog 44 #[.pointer none] w fun e w' => e = .returned (fstV []) ∧ w = w' := by
  go_enter Try.func44, Try.ntmps44
  go_wp2_with fail
  refine (fslen_nil _).mono ?_
  rintro e w1 ⟨rfl, rfl⟩
  go_wp2
  go_ret2
  exact ⟨rfl, rfl⟩
end Go.Proofs.Ytpmimngngehmlaa.F
