/-
  Contracts of queues: Pop, List. Not a statement of the seat.
-/
import Derived.Test.YtpmimngngehmlaaFq3
import Derived.Test.YtpmimngngehmlaaLstAp
namespace Go.Proofs.Ytpmimngngehmlaa.F
open Go.ChangeShapes Go.WideShapes Go.ChangeAt Go.RowKit Base
/-- What Pop leaves. -/
def PopQ (b g room : Nat) (xs : List Int) (w : World) (e : Ending) (w' : World) : Prop := QPost b g room xs.tail (fstV xs) w e w'
set_option maxHeartbeats 1000000 in
set_option maxRecDepth 100000 in
theorem fqpop {w : World} {b g room : Nat} {xs : List Int} (h : QAt w b g room xs) : Calls Try.prog 47 #[.pointer (some ⟨b, 0, none⟩)] w (PopQ b g room xs w) := by
  have HF := Lib.hid (fqfirst h)
  cases xs with
  | nil =>
    have KEY : Hid (∀ q, PopQ b g room [] w (.returned (.tuple #[.int .i64 0, .bool false])) (w.drewN q)) := Lib.hid fun q => ⟨rfl, h.below (below_drewN (Below.refl _ _) q), (Fr.refl _ w).drewN q⟩
    unfold fstV at HF
    simp only [List.headD_nil, List.isEmpty_nil, Bool.not_true] at HF
    generalize PopQ b g room [] w = Post at KEY ⊢
    clear h
    go_enter Try.func47, Try.ntmps47
    go_wp2_with fail
    refine HF.out.mono ?_
    rintro e w1 ⟨rfl, n, rfl⟩
    go_wp2
    exact KEY.out _
  | cons x xs =>
    obtain ⟨hr, hl, hbg, k, N, f, cur, hk, hN, hrN, hfN, h8, h9, h10⟩ := h
    have hl0 : xs.length + 1 ≤ room := by simpa using hl
    have HP : Hid (∀ X, Calls Try.prog 96 #[.pointer (some ⟨b, 0, none⟩), .int .i64 1] (w.drewN X) fun e w' => e = .returned (.int .i64 (((f + 1) % N : Nat) : Int)) ∧ w.drewN X = w') := Lib.hid fun X => fqplace (w := w.drewN X) (n := (x :: xs).length) (room := room) h8 hk hN hfN 1 (by omega)
    have hpl : (f + 1) % N < N := Nat.mod_lt _ (by omega)
    have KEY : Hid (∀ q, PopQ b g room (x :: xs) w (.returned (.tuple #[.int .i64 x, .bool true])) (((w.setCell ⟨b, 1, none⟩ (.int .i64 (((f + 1) % N : Nat) : Int))).setCell ⟨b, 2, none⟩ (.int .i64 (xs.length : Int))).drewN q)) := Lib.hid fun q => by
      have e9 : ((w.setCell ⟨b, 1, none⟩ (.int .i64 (((f + 1) % N : Nat) : Int))).setCell ⟨b, 2, none⟩ (.int .i64 (xs.length : Int))).heap[g]? = some (.cells cur 3) :=
        (Below.heap_setCell _ _ _ _ (fun e => hbg e.symm)).trans ((Below.heap_setCell _ _ _ _ (fun e => hbg e.symm)).trans h9)
      have e8 : ((w.setCell ⟨b, 1, none⟩ (.int .i64 (((f + 1) % N : Nat) : Int))).setCell ⟨b, 2, none⟩ (.int .i64 (xs.length : Int))).heap[b]? = some (boxQ g N ((f + 1) % N) xs.length room) := by
        rw [boxQ] at h8
        rw [heap_setCell_at (heap_setCell_at h8), boxQ]
        simp
      exact ⟨rfl, ⟨hr, (by simp only [List.tail_cons]; omega), hbg, k, N, (f + 1) % N, cur, hk, hN, hrN, hpl, e8, e9, h10.pop⟩, (((Fr.refl _ w).setCell (.inl rfl) _ _).setCell (.inl rfl) _ _).drewN q⟩
    obtain ⟨hb, c0, c1, c2, c3⟩ := cellsQ h8
    obtain ⟨f1, f2⟩ := frozQ h8
    have e1 : ((x :: xs).length : Int) - 1 = (xs.length : Int) := by simp
    have hl6 : 1 ≤ ((x :: xs).length : Int) ∧ ((x :: xs).length : Int) ≤ 65536 := by rw [List.length_cons]; omega
    obtain ⟨hl7, hl8⟩ := hl6
    unfold fstV at HF
    simp only [List.headD_cons, List.isEmpty_cons, Bool.not_false] at HF
    generalize PopQ b g room (x :: xs) w = Post at KEY ⊢
    generalize (f + 1) % N = p at KEY HP hpl
    generalize (x :: xs).length = m at *
    generalize xs.length = n at *
    clear h8 h9 h10 hN hl
    go_enter Try.func47, Try.ntmps47
    go_wp2_with fail
    refine HF.out.mono ?_
    rintro e w1 ⟨rfl, nq, rfl⟩
    go_wp2_with fail
    refine (HP.out _).mono ?_
    rintro e w1 ⟨rfl, rfl⟩
    go_wp2
    exact KEY.out _
theorem fqpop_nil (w : World) : Calls Try.prog 47 #[.pointer none] w fun e w' => e = .returned (fstV []) ∧ w = w' := by
  go_enter Try.func47, Try.ntmps47
  go_wp2_with fail
  refine (fqfirst_nil _).mono ?_
  rintro e w1 ⟨rfl, rfl⟩
  unfold fstV
  go_wp2
  go_ret2
  exact ⟨rfl, rfl⟩
/-- What a call that makes a list of ints leaves: one of its own. -/
def OwnNew (xs : List Int) (w : World) (e : Ending) (w' : World) : Prop := ∃ v, e = .returned v ∧ Lst.OwnI w.heap.size w' v xs ∧ Below w.heap.size w w'
theorem fqlist_nil (w : World) : Calls Try.prog 52 #[.pointer none] w (OwnNew [] w) := by
  go_enter Try.func52, Try.ntmps52
  go_wp2_with fail
  refine (fqlen_nil _).mono ?_
  rintro e w1 ⟨rfl, rfl⟩
  go_wp2_with fail
  refine wp_loop_rounds 1 ?_
  rw [rounds_succ]
  go_wp2
  go_ret
  exact ⟨_, rfl, Lst.OwnI.nil _ _, Below.refl _ _⟩
set_option maxHeartbeats 1000000 in
set_option maxRecDepth 100000 in
theorem fqlist {w : World} {b g room : Nat} {xs : List Int} (h : QAt w b g room xs) : Calls Try.prog 52 #[.pointer (some ⟨b, 0, none⟩)] w (OwnNew xs w) := by
  have HL := Lib.hid (fqlen h)
  have HH := Lib.hid h
  obtain ⟨hr, hl, hbg, k, N, f, cur, hk, hN, hrN, hfN, h8, h9, h10⟩ := h
  have h8l := heap_lt h8
  have h9l := heap_lt h9
  have HP : Hid (∀ X (i : Nat), i ≤ 65536 → Below w.heap.size w X → Calls Try.prog 96 #[.pointer (some ⟨b, 0, none⟩), .int .i64 (i : Int)] X fun e w' => e = .returned (.int .i64 (((f + i) % N : Nat) : Int)) ∧ X = w') := Lib.hid fun X i hi hX => fqplace (n := xs.length) (room := room) ((hX.block b h8l).trans h8) hk hN hfN i hi
  have HC : Hid (∀ X, Below w.heap.size w X → X.cell? ⟨b, 0, none⟩ = some (.slice (some ⟨g, 0, none⟩) N N) ∧ ∀ i, i < xs.length → X.cell? ⟨g, (f + i) % N, none⟩ = some (.int .i64 (xs.getD i 0))) := Lib.hid fun X hX => by
    refine ⟨(cellsQ ((hX.block b h8l).trans h8)).2.1, fun i hi => ?_⟩
    have := h10.2 i hi
    simp [World.cell?, (hX.block g h9l).trans h9, this]
  have hm : ∀ i, (f + i) % N < N := fun i => Nat.mod_lt _ (by omega)
  clear h8 h9 h10 hN hk
  go_enter Try.func52, Try.ntmps52
  go_wp2_with fail
  refine HL.out.mono ?_
  rintro e w1 ⟨rfl, rfl⟩
  go_wp2_with fail
  go_loopw [3, 7] (fun s3 s7 wr => ∃ i : Nat, s7 = .int .i64 (i : Int) ∧ i ≤ xs.length ∧ Hid (Lst.OwnI w.heap.size wr s3 (xs.take i)) ∧ Hid (Below w.heap.size w wr)) (fun _ s7 _ => xs.length - (intOf s7).toNat)
  case atStart => exact ⟨0, rfl, Nat.zero_le _, Lib.hid (Lst.OwnI.nil _ _), Lib.hid (Below.refl _ _)⟩
  case round =>
    obtain ⟨i, rfl, hi, HO, HB⟩ := hrel
    by_cases hlt : i < xs.length
    · obtain ⟨c0, cc⟩ := HC.out wr HB.out
      have cx := cc i hlt
      have hmi := hm i
      have hx : Hid (xs.take (i + 1) = xs.take i ++ [xs.getD i 0]) := Lib.hid (by
        rw [List.take_add_one, List.getElem?_eq_getElem hlt, List.getD_eq_getElem?_getD, List.getElem?_eq_getElem hlt]; rfl)
      have HP1 : Hid (∀ X, Below w.heap.size w X → Calls Try.prog 96 #[.pointer (some ⟨b, 0, none⟩), .int .i64 (i : Int)] X fun e w' => e = .returned (.int .i64 (((f + i) % N : Nat) : Int)) ∧ X = w') := Lib.hid fun X hX => HP.out X i (by omega) hX
      have HTL : Hid ((xs.take i).length ≤ 65536) := Lib.hid (by rw [List.length_take]; omega)
      clear cc HC HP
      generalize (f + i) % N = p at cx hmi HP1
      generalize xs.getD i 0 = x at cx hx
      have HS : Hid (∀ (X w' : World) (v' : Value), Lst.OwnI w.heap.size w' v' (xs.take i ++ [x]) → (X.alloc (.cells #[.int .i64 x] 3)).grownBy w' u3.ownBlock → Below w.heap.size w X → Hid (Lst.OwnI w.heap.size w' v' (xs.take (i + 1)) ∧ Below w.heap.size w w')) := Lib.hid fun X w' v' ho hg hX => Lib.hid ⟨by rw [hx.out]; exact ho, (hX.alloc hX.size _).grown hg (by have := hX.size; simp; omega) (Lst.own_base HO.out)⟩
      go_wp2_with fail
      go_region_law (first
        | (refine Lst.step_append_ints rfl (.tmp 10) (.tmp 20) rfl (by have := HB.out.size; simp; omega) (Lst.OwnI.lay HO.out rfl _) (by simp [Act.eval]) (Lst.int_lit x _) (fun n c e => by cases e) (by simp [Act.eval]) (by have := HTL.out; simp; omega) ?_; intro v' w' ho hg hat; have HE := HS.out _ _ _ ho hg (below_drewN HB.out 1); clear ho hg hat)
        | (go_simp; go_at_call 96; refine (HP1.out _ (below_drewN HB.out 1)).mono ?_; rintro e wx ⟨rfl, rfl⟩))
      all_goals go_wp2
      all_goals go_roundw
      all_goals first | exact ⟨i + 1, by go_num, by omega, Lib.hid HE.out.1, Lib.hid HE.out.2⟩ | (simp [intOf]; omega)
    · have e : i = xs.length := by omega
      have HE := Lib.hid HO.out
      rw [e, List.take_length] at HE
      clear HO hm
      go_wp2
      go_ret
      exact ⟨_, rfl, HE.out, HB.out⟩
end Go.Proofs.Ytpmimngngehmlaa.F
