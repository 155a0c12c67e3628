/-
  Contracts of stacks: Push, Pop, List. Not a statement of the seat.
-/
import Derived.Test.YtpmimngngehmlaaFs2
namespace Go.Proofs.Ytpmimngngehmlaa.F
open Go.ChangeShapes Go.WideShapes Go.ChangeAt Go.RowKit Base Go.Sort
/-- What becomes of a stack. -/
def SPost (b : Nat) (o : Option Nat) (room : Nat) (xs : List Int) (v : Value) (w : World) (e : Ending) (w' : World) : Prop := e = .returned v ∧ ∃ o', SAt w' b o' room xs ∧ Mv o o' w ∧ Fr (ArF b o) w w'
theorem SAt.store {w : World} {b : Nat} {o : Option Nat} {room : Nat} {xs : List Int} {v' : Value} (h : ∃ v, w.heap[b]? = some (.cells #[v, .int .i64 (room : Int)] 133)) (hown : Lst.OwnI 0 w v' xs) (ho : v'.ownBlock = o) (h1 : room ≤ 65536) (h2 : xs.length ≤ room) : SAt (w.setCell ⟨b, 0, none⟩ v') b o room xs := by
  obtain ⟨v, hb⟩ := h
  have hne := own_ne hown hb neSt
  refine ⟨h1, h2, v', by simp [World.setCell, Array.getElem?_modify, hb], ?_, ho⟩
  have hown' : w.ownsRow 0 3 1 v' xs.length (xs.map (Value.int .i64)) := hown
  exact hown'.kept (row := some b) ⟨rfl, rfl, rfl, by simp [World.setCell], fun k _ hk => Below.heap_setCell _ _ _ _ (fun e => hk (by simp [e]))⟩ (.inr hne)
theorem fspush_full {w : World} {b : Nat} {o : Option Nat} {room : Nat} {xs : List Int} (h : SAt w b o room xs) (hf : xs.length = room) (x : Int) : Calls Try.prog 41 #[.pointer (some ⟨b, 0, none⟩), .int .i64 x] w fun e w' => e = .returned (.int .i64 2) ∧ ∃ n, w' = w.drewN n := by
  have HR := Lib.hid (fsroom h)
  rw [hf, Int.sub_self] at HR
  clear h hf
  go_enter Try.func41, Try.ntmps41
  go_wp2_with fail
  refine HR.out.mono ?_
  rintro e w1 ⟨rfl, n, rfl⟩
  go_wp2
  go_ret
  exact ⟨rfl, n, rfl⟩
theorem fspush_nil (x : Int) (w : World) : Calls Try.prog 41 #[.pointer none, .int .i64 x] w fun e w' => e = .returned (.int .i64 2) ∧ ∃ n, w' = w.drewN n := by
  go_enter Try.func41, Try.ntmps41
  go_wp2_with fail
  refine (fsroom_nil _).mono ?_
  rintro e w1 ⟨rfl, n, rfl⟩
  go_wp2
  go_ret
  exact ⟨rfl, n, rfl⟩
set_option maxHeartbeats 1000000 in
set_option maxRecDepth 100000 in
theorem fsput {w : World} {b : Nat} {o : Option Nat} {room : Nat} {xs : List Int} (h : SAt w b o room xs) (hf : xs.length < room) (x : Int) : Calls Try.prog 95 #[.pointer (some ⟨b, 0, none⟩), .int .i64 x] w (SPost b o room (xs ++ [x]) (.tuple #[]) w) := by
  have hlt := h.lt
  have hr := h.1
  have hl := h.2.1
  obtain ⟨p, c, ⟨c0, c1⟩, f0, hown, ho, hb⟩ := h.open_
  have HO := Lib.hid hown
  have HS : Hid (∀ (w' : World) (v' : Value), Lst.OwnI 0 w' v' (xs ++ [x]) → (w.alloc (.cells #[.int .i64 x] 3)).grownBy w' (Value.slice p xs.length c).ownBlock → (v'.ownBlock = (Value.slice p xs.length c).ownBlock ∨ v'.ownBlock = some (w.alloc (.cells #[.int .i64 x] 3)).heap.size) →
      ∃ g cap, v' = .slice (some ⟨g, 0, none⟩) (xs.length + 1) cap ∧ w'.cell? ⟨b, 0, none⟩ = some (.slice p xs.length c) ∧ w'.frozen? ⟨b, 0, none⟩ = false ∧ Hid (SPost b o room (xs ++ [x]) (.tuple #[]) w (.returned (.tuple #[])) (w'.setCell ⟨b, 0, none⟩ v'))) := Lib.hid fun w' v' ho' hg hat => by
    obtain ⟨g, cap, hv⟩ : ∃ g cap, v' = .slice (some ⟨g, 0, none⟩) (xs.length + 1) cap := by
      rcases ho'.form with ⟨h0, _⟩ | ⟨g, cap, hv, _⟩
      · simp at h0
      · exact ⟨g, cap, by simpa using hv⟩
    have hne : (Value.slice p xs.length c).ownBlock ≠ some b := fun e => (hlt.2 b (ho.symm.trans e)).2 rfl
    have hb1 := heap_alloc_lt w (.cells #[.int .i64 x] 3) _ _ hb
    have hb2 := (hg.block b (heap_lt hb1) (fun e => hne e.symm)).trans hb1
    have hFr : Fr (ArF b o) w w' := ((Fr.refl (ArF b o) w).alloc _).trans (Fr.of_grown (F := fun g => o = some g) hg (fun k hk => ho.symm.trans hk)) (fun g _ e => .inr e)
    refine ⟨g, cap, hv, by simp [World.cell?, hb2], by simp [World.frozen?, hb2], Lib.hid ⟨rfl, v'.ownBlock, SAt.store ⟨_, hb2⟩ ho' rfl hr (by rw [List.length_append, List.length_singleton]; omega), ?_, hFr.setCell (.inl rfl) 0 _⟩⟩
    rcases hat with h | h
    · exact .inl (h.trans ho)
    · exact .inr ⟨_, h, by simp⟩
  have hbl := heap_lt hb
  clear h hown ho hb hlt
  generalize SPost b o room (xs ++ [x]) (.tuple #[]) w = Post at HS ⊢
  go_enter Try.func95, Try.ntmps95
  go_wp2_with (at_builtin; refine Lst.append_ints rfl (.tmp 8) (.tmp 10) rfl (Nat.zero_le _) (Lst.OwnI.lay HO.out rfl _) rfl (Lst.int_lit x _) (fun n c e => by cases e) rfl (by simp; omega) ?_; intro v' w' ho hg hat; obtain ⟨g, cap, rfl, d0, e0, HE⟩ := HS.out _ _ ho hg hat; clear ho hg hat)
  go_end0
  exact HE.out
set_option maxHeartbeats 1000000 in
theorem fspush_ok {w : World} {b : Nat} {o : Option Nat} {room : Nat} {xs : List Int} (h : SAt w b o room xs) (hf : xs.length < room) (x : Int) : Calls Try.prog 41 #[.pointer (some ⟨b, 0, none⟩), .int .i64 x] w (SPost b o room (xs ++ [x]) (.int .i64 0) w) := by
  have HR := Lib.hid (fsroom h)
  have hne : ((room : Int) - (xs.length : Int) == 0) = false := by rw [beq_eq_false_iff_ne]; omega
  have HP : Hid (∀ n, Calls Try.prog 95 #[.pointer (some ⟨b, 0, none⟩), .int .i64 x] (w.drewN n) (SPost b o room (xs ++ [x]) (.tuple #[]) (w.drewN n))) := Lib.hid fun n => fsput (h.below (below_drewN (Below.refl _ _) n)) hf x
  clear h hf
  go_enter Try.func41, Try.ntmps41
  go_wp2_with fail
  refine HR.out.mono ?_
  rintro e w1 ⟨rfl, n, rfl⟩
  go_wp2_with fail
  refine (HP.out _).mono ?_
  rintro e w1 ⟨rfl, h1⟩
  have HH := Lib.hid h1
  clear h1
  go_wp2
  go_ret
  exact ⟨rfl, HH.out⟩
set_option maxHeartbeats 1000000 in
set_option maxRecDepth 100000 in
theorem fsdrop {w : World} {b : Nat} {o : Option Nat} {room : Nat} {xs : List Int} {x : Int} (h : SAt w b o room (xs ++ [x])) : Calls Try.prog 98 #[.pointer (some ⟨b, 0, none⟩)] w (SPost b o room xs (.tuple #[]) w) := by
  have hr := h.1
  have hl := h.2.1
  obtain ⟨p, c, ⟨c0, c1⟩, f0, hown, ho, hb⟩ := h.open_
  rw [List.length_append, List.length_singleton] at c0 hl hown ho hb
  have hlc : xs.length + 1 ≤ c := by
    rcases hown.2 with ⟨hv, hz⟩ | ⟨g, cap, cur, hv, _, _, hh, _⟩
    · simp at hz
    · injection hv with e1 e2 e3
      simp at hh
      omega
  have hcut := hown.cut (m := xs.length) (by simp)
  rw [List.take_left] at hcut
  have hs : ∀ wx, (Instr.sliceAt 61 (.slice p (xs.length + 1) c) none (some (.int .i64 (xs.length : Int))) none).run Try.prog wx = .ok (.slice p xs.length c) wx := fun wx => by
    rw [run_sliceAt_slice _ _ _ _ _ _ Lst.elemInts, run_slice_h wx _ _ _ _ Lst.elemInts _ _ (by omega) (by omega), Lst.elemInts', Lst.sizeInt]
    simp only [Result.andThen, sliced]
    congr 1
    cases p with
    | none => simp
    | some a => simp [Addr.add]
  have KEY : Hid (∀ q, SPost b o room xs (.tuple #[]) w (.returned (.tuple #[])) ((w.setCell ⟨b, 0, none⟩ (.slice p xs.length c)).drewN q)) := Lib.hid fun q =>
    ⟨rfl, o, (SAt.store ⟨_, hb⟩ hcut (by rw [← ho]; cases p <;> rfl) hr (by omega)).below (below_drewN (Below.refl _ _) q), .inl rfl, ((Fr.refl _ _).setCell (.inl rfl) 0 _).drewN q⟩
  have hll : (xs.length : Int) + 1 ≤ 65536 := by omega
  have e1 : ((xs.length + 1 : Nat) : Int) - 1 = (xs.length : Int) := by omega
  clear h hown ho hb hcut hl
  generalize SPost b o room xs (.tuple #[]) w = Post at KEY ⊢
  generalize xs.length = n at *
  go_enter Try.func98, Try.ntmps98
  go_wp2_with fail
  go_region
  all_goals go_end0
  all_goals exact KEY.out _
end Go.Proofs.Ytpmimngngehmlaa.F
