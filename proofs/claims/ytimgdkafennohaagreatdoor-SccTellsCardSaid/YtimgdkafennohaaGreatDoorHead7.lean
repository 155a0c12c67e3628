/-
  Contracts of small functions, several texts laid into one. Not a statement of the seat.
-/
import Derived.Test.YtimgdkafennohaaGreatDoorHead5
import Derived.Test.YtimgdkafennohaaGreatDoorFs1
namespace Go.Proofs.YtimgdkafennohaaGreatDoor.F
open Go.ChangeShapes Go.WideShapes Go.ChangeAt Go.RowKit Base Go.Sort
/-- Block b is a stack of that room with xs, the last one on top, which lie in block o. -/
def SAt (w : World) (b : Nat) (o : Option Nat) (room : Nat) (xs : List Int) : Prop :=
  room ≤ 65536 ∧ xs.length ≤ room ∧ ∃ v, w.heap[b]? = some (.cells #[v, .int .i64 (room : Int)] 105) ∧ Lst.OwnI 0 w v xs ∧ v.ownBlock = o
theorem neSt : 105 ≠ 3 := by decide
theorem SAt.lt {w : World} {b : Nat} {o : Option Nat} {room : Nat} {xs : List Int} (h : SAt w b o room xs) : b < w.heap.size ∧ ∀ g, o = some g → g < w.heap.size ∧ g ≠ b := by
  obtain ⟨_, _, v, hb, hown, rfl⟩ := h
  refine ⟨heap_lt hb, fun g hg => ⟨(World.ownsRow.lt hown g hg).2, fun e => ?_⟩⟩
  have := own_ne hown hb neSt
  rw [e] at hg
  exact this hg
theorem SAt.fr {w w' : World} {F : Nat → Prop} {b : Nat} {o : Option Nat} {room : Nat} {xs : List Int} (h : SAt w b o room xs) (hf : Fr F w w') (hb : ¬ F b) (ho : ∀ g, o = some g → ¬ F g) : SAt w' b o room xs := by
  have hl := h.lt
  obtain ⟨h1, h2, v, hv, hown, rfl⟩ := h
  refine ⟨h1, h2, v, (hf.block hl.1 hb).trans hv, ?_, rfl⟩
  refine ⟨hown.1, ?_⟩
  rcases hown.2 with hn | ⟨g, cap, cur, rfl, hB, hg, rest⟩
  · exact .inl hn
  · exact .inr ⟨g, cap, cur, rfl, hB, (hf.block (heap_lt hg) (ho g rfl)).trans hg, rest⟩
theorem SAt.below {w w' : World} {b : Nat} {o : Option Nat} {room : Nat} {xs : List Int} (h : SAt w b o room xs) (hb : Below w.heap.size w w') : SAt w' b o room xs :=
  h.fr (Fr.of_below (F := fun _ => False) hb) (fun e => e) (fun _ _ e => e)
theorem SAt.open_ {w : World} {b : Nat} {o : Option Nat} {room : Nat} {xs : List Int} (h : SAt w b o room xs) : ∃ p c, (w.cell? ⟨b, 0, none⟩ = some (.slice p xs.length c) ∧ w.cell? ⟨b, 1, none⟩ = some (.int .i64 (room : Int))) ∧ w.frozen? ⟨b, 0, none⟩ = false ∧ Lst.OwnI 0 w (.slice p xs.length c) xs ∧ (Value.slice p xs.length c).ownBlock = o ∧ w.heap[b]? = some (.cells #[.slice p xs.length c, .int .i64 (room : Int)] 105) := by
  obtain ⟨_, _, v, hb, hown, ho⟩ := h
  obtain ⟨p, c, rfl⟩ : ∃ p c, v = .slice p xs.length c := by
    rcases hown.2 with ⟨hv, h0⟩ | ⟨g, cap, cur, hv, _⟩
    · exact ⟨none, 0, by rw [hv, h0]⟩
    · exact ⟨_, _, hv⟩
  exact ⟨p, c, by simp [World.cell?, hb], by simp [World.frozen?, hb], hown, ho, hb⟩
/-- What New leaves. -/
def NewS (n : Int) (w : World) (e : Ending) (w' : World) : Prop := e = .returned (.pointer (some ⟨w.heap.size, 0, none⟩)) ∧ SAt w' w.heap.size none (roomOf n) [] ∧ Below w.heap.size w w'
theorem fsnew (n : Int) (w : World) : Calls Tryz.prog 41 #[.int .i64 n] w (NewS n w) := by
  have HB := Lib.hid (fbounded n w)
  have KEY : Hid (NewS n w (.returned (.pointer (some ⟨w.heap.size, 0, none⟩))) (w.alloc (.cells #[.slice none 0 0, .int .i64 ((roomOf n : Nat) : Int)] 105))) := Lib.hid
    ⟨rfl, ⟨roomOf_le n, Nat.zero_le _, .slice none 0 0, heap_alloc_at _ _ _ rfl, Lst.OwnI.nil _ _, rfl⟩, (Below.refl _ _).alloc (Nat.le_refl _) _⟩
  generalize NewS n w = Post at KEY ⊢
  go_enter Tryz.func41, Tryz.ntmps41
  go_wp2_with fail
  refine HB.out.mono ?_
  rintro e w1 ⟨rfl, rfl⟩
  go_wp2
  exact KEY.out
theorem fssize {w : World} {b : Nat} {o : Option Nat} {room : Nat} {xs : List Int} (h : SAt w b o room xs) : Calls Tryz.prog 101 #[.pointer (some ⟨b, 0, none⟩)] w fun e w' => e = .returned (.int .i64 (xs.length : Int)) ∧ w = w' := by
  obtain ⟨p, c, ⟨c0, c1⟩, _⟩ := h.open_
  clear h
  go_enter Tryz.func101, Tryz.ntmps101
  go_wp2
  go_ret
  exact ⟨rfl, rfl⟩
theorem fslen {w : World} {b : Nat} {o : Option Nat} {room : Nat} {xs : List Int} (h : SAt w b o room xs) : Calls Tryz.prog 95 #[.pointer (some ⟨b, 0, none⟩)] w fun e w' => e = .returned (.int .i64 (xs.length : Int)) ∧ w = w' := by
  have HS := Lib.hid (fssize h)
  go_enter Tryz.func95, Tryz.ntmps95
  go_wp2_with fail
  refine HS.out.mono ?_
  rintro e w1 ⟨rfl, rfl⟩
  go_wp2
  go_ret
  exact ⟨rfl, rfl⟩
theorem fslen_nil (w : World) : Calls Tryz.prog 95 #[.pointer none] w fun e w' => e = .returned (.int .i64 0) ∧ w = w' := by
  go_enter Tryz.func95, Tryz.ntmps95
  go_wp2
  go_ret
  exact ⟨rfl, rfl⟩
theorem fsproom {w : World} {b : Nat} {o : Option Nat} {room : Nat} {xs : List Int} (h : SAt w b o room xs) : Calls Tryz.prog 94 #[.pointer (some ⟨b, 0, none⟩)] w (IntDrew ((room : Int) - (xs.length : Int)) w) := by
  have h1 := h.1
  have h2 := h.2.1
  obtain ⟨p, c, ⟨c0, c1⟩, _⟩ := h.open_
  have e1 : IntKind.i64.wrap ((room : Int) - (xs.length : Int)) = (room : Int) - (xs.length : Int) := by rw [IntKind.wrap_i64]; omega
  clear h
  go_enter Tryz.func94, Tryz.ntmps94
  go_wp2
  go_quiet (fail)
  go_wp2
  go_ret
  exact ⟨rfl, _, rfl⟩
theorem fsroom {w : World} {b : Nat} {o : Option Nat} {room : Nat} {xs : List Int} (h : SAt w b o room xs) : Calls Tryz.prog 82 #[.pointer (some ⟨b, 0, none⟩)] w (IntDrew ((room : Int) - (xs.length : Int)) w) := by
  have HS := Lib.hid (fsproom h)
  go_enter Tryz.func82, Tryz.ntmps82
  go_wp2_with fail
  refine HS.out.mono ?_
  rintro e w1 ⟨rfl, n, rfl⟩
  go_wp2
  go_ret
  exact ⟨rfl, _, rfl⟩
theorem fsroom_nil (w : World) : Calls Tryz.prog 82 #[.pointer none] w (IntDrew 0 w) := by
  go_enter Tryz.func82, Tryz.ntmps82
  go_wp2
  go_ret
  exact ⟨rfl, 0, rfl⟩
theorem fstop {w : World} {b : Nat} {o : Option Nat} {room : Nat} {xs : List Int} {x : Int} (h : SAt w b o room (xs ++ [x])) : Calls Tryz.prog 96 #[.pointer (some ⟨b, 0, none⟩)] w fun e w' => e = .returned (.int .i64 x) ∧ ∃ n, w' = w.drewN n := by
  have h1 := h.1
  have h2 := h.2.1
  obtain ⟨p, c, ⟨c0, c1⟩, _, hown, _⟩ := h.open_
  rcases hown.form with ⟨hx, _⟩ | ⟨g, cap, hv, _, hg, hc⟩
  · simp at hx
  · have hint := hown.ints (by omega)
    rcases hint with ⟨_, hx⟩ | ⟨g', o', c', hv', _, _, _, hcell⟩
    · simp at hx
    · have hx := hcell xs.length (by simp)
      injection hv with e1 e2 e3
      injection hv' with f1 f2 f3
      rw [e1] at f1
      injection f1 with f1
      injection f1 with f1 f4
      subst f1 f4
      rw [List.length_append, List.length_singleton] at c0 h2
      simp only [List.getD_eq_getElem?_getD, List.getElem?_append_right (Nat.le_refl _), Nat.sub_self, List.getElem?_cons_zero, Option.getD_some, Nat.zero_add] at hx
      subst e1
      generalize xs.length = n at *
      clear h hown hcell hc
      go_enter Tryz.func96, Tryz.ntmps96
      go_wp2
      go_quiet (fail)
      go_wp2
      go_ret
      exact ⟨rfl, _, rfl⟩
theorem fsfirst {w : World} {b : Nat} {o : Option Nat} {room : Nat} {xs : List Int} (h : SAt w b o room xs) : Calls Tryz.prog 84 #[.pointer (some ⟨b, 0, none⟩)] w fun e w' => e = .returned (fstV xs.reverse) ∧ ∃ n, w' = w.drewN n := by
  have HL := Lib.hid (fslen h)
  rcases List.eq_nil_or_concat xs with rfl | ⟨ys, x, rfl⟩
  · clear h
    go_enter Tryz.func84, Tryz.ntmps84
    go_wp2_with fail
    refine HL.out.mono ?_
    rintro e w1 ⟨rfl, rfl⟩
    go_wp2
    go_ret2
    exact ⟨rfl, 0, rfl⟩
  · rw [List.concat_eq_append] at h HL ⊢
    have HT := Lib.hid (fstop h)
    have hne : (((ys ++ [x]).length : Int) == 0) = false := by rw [beq_eq_false_iff_ne]; simp; omega
    unfold fstV
    simp only [List.reverse_append, List.reverse_cons, List.reverse_nil, List.nil_append, List.cons_append, List.headD_cons, List.isEmpty_cons, Bool.not_false]
    generalize (ys ++ [x]).length = m at HL hne
    clear h
    go_enter Tryz.func84, Tryz.ntmps84
    go_wp2_with fail
    refine HL.out.mono ?_
    rintro e w1 ⟨rfl, rfl⟩
    go_wp2_with fail
    refine HT.out.mono ?_
    rintro e w1 ⟨rfl, n, rfl⟩
    go_wp2
    go_ret2
    exact ⟨rfl, _, rfl⟩
theorem fsfirst_nil (w : World) : Calls Tryz.prog 84 #[.pointer none] w fun e w' => e = .returned (fstV []) ∧ w = w' := by
  go_enter Tryz.func84, Tryz.ntmps84
  go_wp2_with fail
  refine (fslen_nil _).mono ?_
  rintro e w1 ⟨rfl, rfl⟩
  go_wp2
  go_ret2
  exact ⟨rfl, rfl⟩
end Go.Proofs.YtimgdkafennohaaGreatDoor.F
namespace Go.Proofs.YtimgdkafennohaaGreatDoor.F
open Go.ChangeShapes Go.WideShapes Go.ChangeAt Go.RowKit Base Go.Sort
/-- What becomes of a stack. -/
def SPost (b : Nat) (o : Option Nat) (room : Nat) (xs : List Int) (v : Value) (w : World) (e : Ending) (w' : World) : Prop := e = .returned v ∧ ∃ o', SAt w' b o' room xs ∧ Mv o o' w ∧ Fr (ArF b o) w w'
theorem SAt.store {w : World} {b : Nat} {o : Option Nat} {room : Nat} {xs : List Int} {v' : Value} (h : ∃ v, w.heap[b]? = some (.cells #[v, .int .i64 (room : Int)] 105)) (hown : Lst.OwnI 0 w v' xs) (ho : v'.ownBlock = o) (h1 : room ≤ 65536) (h2 : xs.length ≤ room) : SAt (w.setCell ⟨b, 0, none⟩ v') b o room xs := by
  obtain ⟨v, hb⟩ := h
  have hne := own_ne hown hb neSt
  refine ⟨h1, h2, v', by simp [World.setCell, Array.getElem?_modify, hb], ?_, ho⟩
  have hown' : w.ownsRow 0 3 1 v' xs.length (xs.map (Value.int .i64)) := hown
  exact hown'.kept (row := some b) ⟨rfl, rfl, rfl, by simp [World.setCell], fun k _ hk => Below.heap_setCell _ _ _ _ (fun e => hk (by simp [e]))⟩ (.inr hne)
theorem fspush_full {w : World} {b : Nat} {o : Option Nat} {room : Nat} {xs : List Int} (h : SAt w b o room xs) (hf : xs.length = room) (x : Int) : Calls Tryz.prog 63 #[.pointer (some ⟨b, 0, none⟩), .int .i64 x] w fun e w' => e = .returned (.int .i64 2) ∧ ∃ n, w' = w.drewN n := by
  have HR := Lib.hid (fsroom h)
  rw [hf, Int.sub_self] at HR
  clear h hf
  go_enter Tryz.func63, Tryz.ntmps63
  go_wp2_with fail
  refine HR.out.mono ?_
  rintro e w1 ⟨rfl, n, rfl⟩
  go_wp2
  go_ret
  exact ⟨rfl, n, rfl⟩
theorem fspush_nil (x : Int) (w : World) : Calls Tryz.prog 63 #[.pointer none, .int .i64 x] w fun e w' => e = .returned (.int .i64 2) ∧ ∃ n, w' = w.drewN n := by
  go_enter Tryz.func63, Tryz.ntmps63
  go_wp2_with fail
  refine (fsroom_nil _).mono ?_
  rintro e w1 ⟨rfl, n, rfl⟩
  go_wp2
  go_ret
  exact ⟨rfl, n, rfl⟩
set_option maxHeartbeats 1000000 in
set_option maxRecDepth 100000 in
theorem fsput {w : World} {b : Nat} {o : Option Nat} {room : Nat} {xs : List Int} (h : SAt w b o room xs) (hf : xs.length < room) (x : Int) : Calls Tryz.prog 83 #[.pointer (some ⟨b, 0, none⟩), .int .i64 x] w (SPost b o room (xs ++ [x]) (.tuple #[]) w) := by
  have hlt := h.lt
  have hr := h.1
  have hl := h.2.1
  obtain ⟨p, c, ⟨c0, c1⟩, f0, hown, ho, hb⟩ := h.open_
  have HO := Lib.hid hown
  have HS : Hid (∀ (w' : World) (v' : Value), Lst.OwnI 0 w' v' (xs ++ [x]) → (w.alloc (.cells #[.int .i64 x] 3)).grownBy w' (Value.slice p xs.length c).ownBlock → (v'.ownBlock = (Value.slice p xs.length c).ownBlock ∨ v'.ownBlock = some (w.alloc (.cells #[.int .i64 x] 3)).heap.size) →
      ∃ g cap, v' = .slice (some ⟨g, 0, none⟩) (xs.length + 1) cap ∧ w'.cell? ⟨b, 0, none⟩ = some (.slice p xs.length c) ∧ w'.frozen? ⟨b, 0, none⟩ = false ∧ Hid (SPost b o room (xs ++ [x]) (.tuple #[]) w (.returned (.tuple #[])) (w'.setCell ⟨b, 0, none⟩ v'))) := Lib.hid fun w' v' ho' hg hat => by
    obtain ⟨g, cap, hv⟩ : ∃ g cap, v' = .slice (some ⟨g, 0, none⟩) (xs.length + 1) cap := by
      rcases ho'.form with ⟨h0, _⟩ | ⟨g, cap, hv, _⟩
      · simp at h0
      · exact ⟨g, cap, by simpa using hv⟩
    have hne : (Value.slice p xs.length c).ownBlock ≠ some b := fun e => (hlt.2 b (ho.symm.trans e)).2 rfl
    have hb1 := heap_alloc_lt w (.cells #[.int .i64 x] 3) _ _ hb
    have hb2 := (hg.block b (heap_lt hb1) (fun e => hne e.symm)).trans hb1
    have hFr : Fr (ArF b o) w w' := ((Fr.refl (ArF b o) w).alloc _).trans (Fr.of_grown (F := fun g => o = some g) hg (fun k hk => ho.symm.trans hk)) (fun g _ e => .inr e)
    refine ⟨g, cap, hv, by simp [World.cell?, hb2], by simp [World.frozen?, hb2], Lib.hid ⟨rfl, v'.ownBlock, SAt.store ⟨_, hb2⟩ ho' rfl hr (by rw [List.length_append, List.length_singleton]; omega), ?_, hFr.setCell (.inl rfl) 0 _⟩⟩
    rcases hat with h | h
    · exact .inl (h.trans ho)
    · exact .inr ⟨_, h, by simp⟩
  have hbl := heap_lt hb
  clear h hown ho hb hlt
  generalize SPost b o room (xs ++ [x]) (.tuple #[]) w = Post at HS ⊢
  go_enter Tryz.func83, Tryz.ntmps83
  go_wp2_with (at_builtin; refine Lst.append_ints rfl (.tmp 8) (.tmp 10) rfl (Nat.zero_le _) (Lst.OwnI.lay HO.out rfl _) rfl (Lst.int_lit x _) (fun n c e => by cases e) rfl (by simp; omega) ?_; intro v' w' ho hg hat; obtain ⟨g, cap, rfl, d0, e0, HE⟩ := HS.out _ _ ho hg hat; clear ho hg hat)
  go_end0
  exact HE.out
set_option maxHeartbeats 1000000 in
theorem fspush_ok {w : World} {b : Nat} {o : Option Nat} {room : Nat} {xs : List Int} (h : SAt w b o room xs) (hf : xs.length < room) (x : Int) : Calls Tryz.prog 63 #[.pointer (some ⟨b, 0, none⟩), .int .i64 x] w (SPost b o room (xs ++ [x]) (.int .i64 0) w) := by
  have HR := Lib.hid (fsroom h)
  have hne : ((room : Int) - (xs.length : Int) == 0) = false := by rw [beq_eq_false_iff_ne]; omega
  have HP : Hid (∀ n, Calls Tryz.prog 83 #[.pointer (some ⟨b, 0, none⟩), .int .i64 x] (w.drewN n) (SPost b o room (xs ++ [x]) (.tuple #[]) (w.drewN n))) := Lib.hid fun n => fsput (h.below (below_drewN (Below.refl _ _) n)) hf x
  clear h hf
  go_enter Tryz.func63, Tryz.ntmps63
  go_wp2_with fail
  refine HR.out.mono ?_
  rintro e w1 ⟨rfl, n, rfl⟩
  go_wp2_with fail
  refine (HP.out _).mono ?_
  rintro e w1 ⟨rfl, h1⟩
  have HH := Lib.hid h1
  clear h1
  go_wp2
  go_ret
  exact ⟨rfl, HH.out⟩
set_option maxHeartbeats 1000000 in
set_option maxRecDepth 100000 in
theorem fsdrop {w : World} {b : Nat} {o : Option Nat} {room : Nat} {xs : List Int} {x : Int} (h : SAt w b o room (xs ++ [x])) : Calls Tryz.prog 85 #[.pointer (some ⟨b, 0, none⟩)] w (SPost b o room xs (.tuple #[]) w) := by
  have hr := h.1
  have hl := h.2.1
  obtain ⟨p, c, ⟨c0, c1⟩, f0, hown, ho, hb⟩ := h.open_
  rw [List.length_append, List.length_singleton] at c0 hl hown ho hb
  have hlc : xs.length + 1 ≤ c := by
    rcases hown.2 with ⟨hv, hz⟩ | ⟨g, cap, cur, hv, _, _, hh, _⟩
    · simp at hz
    · injection hv with e1 e2 e3
      simp at hh
      omega
  have hcut := hown.cut (m := xs.length) (by simp)
  rw [List.take_left] at hcut
  have hs : ∀ wx, (Instr.sliceAt 32 (.slice p (xs.length + 1) c) none (some (.int .i64 (xs.length : Int))) none).run Tryz.prog wx = .ok (.slice p xs.length c) wx := fun wx => by
    rw [run_sliceAt_slice _ _ _ _ _ _ Lst.elemInts, run_slice_h wx _ _ _ _ Lst.elemInts _ _ (by omega) (by omega), Lst.elemInts', Lst.sizeInt]
    simp only [Result.andThen, sliced]
    congr 1
    cases p with
    | none => simp
    | some a => simp [Addr.add]
  have KEY : Hid (∀ q, SPost b o room xs (.tuple #[]) w (.returned (.tuple #[])) ((w.setCell ⟨b, 0, none⟩ (.slice p xs.length c)).drewN q)) := Lib.hid fun q =>
    ⟨rfl, o, (SAt.store ⟨_, hb⟩ hcut (by rw [← ho]; cases p <;> rfl) hr (by omega)).below (below_drewN (Below.refl _ _) q), .inl rfl, ((Fr.refl _ _).setCell (.inl rfl) 0 _).drewN q⟩
  have hll : (xs.length : Int) + 1 ≤ 65536 := by omega
  have e1 : ((xs.length + 1 : Nat) : Int) - 1 = (xs.length : Int) := by omega
  clear h hown ho hb hcut hl
  generalize SPost b o room xs (.tuple #[]) w = Post at KEY ⊢
  generalize xs.length = n at *
  go_enter Tryz.func85, Tryz.ntmps85
  go_wp2_with fail
  go_region
  all_goals go_end0
  all_goals exact KEY.out _
end Go.Proofs.YtimgdkafennohaaGreatDoor.F
namespace Go.Proofs.YtimgdkafennohaaGreatDoor.F
open Go.ChangeShapes Go.WideShapes Go.ChangeAt Go.RowKit Base Go.Sort
/-- What Pop leaves: the top is gone. -/
def PopS (b : Nat) (o : Option Nat) (room : Nat) (xs : List Int) (w : World) (e : Ending) (w' : World) : Prop := SPost b o room xs.dropLast (fstV xs.reverse) w e w'
set_option maxHeartbeats 1000000 in
theorem fspop {w : World} {b : Nat} {o : Option Nat} {room : Nat} {xs : List Int} (h : SAt w b o room xs) : Calls Tryz.prog 64 #[.pointer (some ⟨b, 0, none⟩)] w (PopS b o room xs w) := by
  have HF := Lib.hid (fsfirst h)
  rcases List.eq_nil_or_concat xs with rfl | ⟨ys, x, rfl⟩
  · have KEY : Hid (∀ q, PopS b o room [] w (.returned (.tuple #[.int .i64 0, .bool false])) (w.drewN q)) := Lib.hid fun q => ⟨rfl, o, h.below (below_drewN (Below.refl _ _) q), .inl rfl, (Fr.refl _ w).drewN q⟩
    unfold fstV at HF
    simp only [List.reverse_nil, List.headD_nil, List.isEmpty_nil, Bool.not_true] at HF
    generalize PopS b o room [] w = Post at KEY ⊢
    clear h
    go_enter Tryz.func64, Tryz.ntmps64
    go_wp2_with fail
    refine HF.out.mono ?_
    rintro e w1 ⟨rfl, n, rfl⟩
    go_wp2
    exact KEY.out _
  · rw [List.concat_eq_append] at h HF ⊢
    have HP : Hid (∀ n, Calls Tryz.prog 85 #[.pointer (some ⟨b, 0, none⟩)] (w.drewN n) (SPost b o room ys (.tuple #[]) (w.drewN n))) := Lib.hid fun n => fsdrop (h.below (below_drewN (Below.refl _ _) n))
    unfold PopS
    unfold fstV at HF ⊢
    simp only [List.reverse_append, List.reverse_cons, List.reverse_nil, List.nil_append, List.cons_append, List.headD_cons, List.isEmpty_cons, Bool.not_false, List.dropLast_concat] at HF ⊢
    clear h
    go_enter Tryz.func64, Tryz.ntmps64
    go_wp2_with fail
    refine HF.out.mono ?_
    rintro e w1 ⟨rfl, n, rfl⟩
    go_wp2_with fail
    refine (HP.out _).mono ?_
    rintro e w1 ⟨rfl, h1⟩
    have HH := Lib.hid h1
    clear h1
    go_wp2
    go_ret2
    exact ⟨rfl, HH.out⟩
end Go.Proofs.YtimgdkafennohaaGreatDoor.F
