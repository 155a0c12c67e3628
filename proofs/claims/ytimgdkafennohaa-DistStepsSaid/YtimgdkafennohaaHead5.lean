/-
  Contracts of small functions, several texts laid into one. Not a statement of the seat.
-/
import Derived.Test.YtimgdkafennohaaFq1
import Derived.Deep.RegionHeld3
import Derived.Deep.OwnRows
import Derived.Lib.ItoaNum
import Derived.Test.YtimgdkafennohaaHead6
namespace Go.Proofs.Ytimgdkafennohaa.F
open Go.ChangeShapes Go.WideShapes Go.ChangeAt Go.RowKit Base
/-- How long a ring is made. -/
theorem ring_len (r : Nat) (hr : r ≤ 65536) : r ≤ 2 ^ Lib.bitLen (max r 1 - 1) ∧ Lib.bitLen (max r 1 - 1) ≤ 16 := by
  unfold Lib.bitLen
  by_cases h0 : max r 1 - 1 = 0
  · rw [h0, Lib.bitLenAux_zero]; omega
  · obtain ⟨h1, h2, h3⟩ := Lib.bitLenAux_bounds 64 (max r 1 - 1) (by omega) h0
    refine ⟨by omega, ?_⟩
    have h4 : 2 ^ (Lib.bitLenAux 64 (max r 1 - 1) - 1) < 2 ^ 16 := by omega
    have := (Nat.pow_lt_pow_iff_right (by decide : 1 < 2)).1 h4
    omega
/-- What New leaves. -/
def NewQ (n : Int) (w : World) (e : Ending) (w' : World) : Prop := ∃ b g, e = .returned (.pointer (some ⟨b, 0, none⟩)) ∧ QAt w' b g (roomOf n) [] ∧ w.heap.size ≤ b ∧ w.heap.size ≤ g ∧ Below w.heap.size w w'
set_option maxHeartbeats 1000000 in
set_option maxRecDepth 100000 in
theorem fqnew (n : Int) (w : World) : Calls Try.prog 25 #[.int .i64 n] w (NewQ n w) := by
  have hr := roomOf_le n
  obtain ⟨hl1, hl2⟩ := ring_len (roomOf n) hr
  have HB := Lib.hid (fbounded n w)
  have KEY : ∀ k, roomOf n ≤ 2 ^ k → k ≤ 16 → NewQ n w (.returned (.pointer (some ⟨w.heap.size + 1, 0, none⟩))) ((w.alloc (.cells (madeCells #[.int .i64 0] (2 ^ k)) 3)).alloc (.cells #[.slice (some ⟨w.heap.size, 0, none⟩) (2 ^ k) (2 ^ k), .int .i64 0, .int .i64 0, .int .i64 ((roomOf n : Nat) : Int)] 92)) := fun k h1 h2 => by
    refine ⟨w.heap.size + 1, w.heap.size, rfl, ⟨hr, Nat.zero_le _, by omega, k, 2 ^ k, 0, _, h2, rfl, h1, Nat.two_pow_pos k, heap_alloc_at _ _ _ (by simp), heap_alloc_lt _ _ _ _ (heap_alloc_at _ _ _ rfl), Ring.nil (by simp [madeCells]) 0⟩, by omega, Nat.le_refl _, ((Below.refl _ _).alloc (Nat.le_refl _) _).alloc (by simp) _⟩
  have KEY2 := Lib.hid (KEY _ hl1 hl2)
  clear KEY
  obtain ⟨r, hr0⟩ : ∃ r, r = roomOf n := ⟨_, rfl⟩
  have hmk : ∀ wx k, k ≤ 16 → (Instr.makeSlice 26 (.int .i64 ((2 ^ k : Nat) : Int)) (.int .i64 ((2 ^ k : Nat) : Int))).run Try.prog wx = .ok (.slice (some ⟨wx.heap.size, 0, none⟩) (2 ^ k) (2 ^ k)) (wx.alloc (.cells (madeCells #[.int .i64 0] (2 ^ k)) 3)) := fun wx k hk => by
    have hp : 2 ^ k ≤ 2 ^ 16 := Nat.pow_le_pow_right (by omega) hk
    exact run_make_row' (P := Try.prog) 26 3 (.int .i64 0) 8 Try.underlying26 Lst.int_info rfl .i64 .i64 (2 ^ k) (by omega) (by omega) wx
  generalize NewQ n w = Post at KEY2 ⊢
  rw [← hr0] at HB hl2 KEY2 hr
  clear hl1
  have HLN : ∀ wx, Calls Try.prog 40 #[.int .u64 ((max r 1 - 1 : Nat) : Int)] wx fun e w' => e = .returned (.int .i64 (Lib.bitLen (max r 1 - 1))) ∧ w' = wx := fun wx => by
    have := Try.bits_Len ((max r 1 - 1 : Nat) : Int) wx (by omega) (by omega)
    rwa [Int.toNat_natCast] at this
  have HL := Lib.hid HLN
  have hm := hmk
  generalize Lib.bitLen (max r 1 - 1) = k at HL KEY2 hl2
  have hw1 : max (r : Int) 1 - 1 = ((max r 1 - 1 : Nat) : Int) := by omega
  have hp : 2 ^ k ≤ 2 ^ 16 := Nat.pow_le_pow_right (by omega) hl2
  have hm1 := fun wx => hm wx k hl2
  have hw2 : ((2 : Int) ^ k) = ((2 ^ k : Nat) : Int) := by rw [Int.natCast_pow]; rfl
  clear HLN hmk hr0 hm
  generalize hN : (2 ^ k : Nat) = N at KEY2 hm1 hw2 hp
  have hw3 : wrap64 ((2 : Int) ^ k) = (N : Int) := by rw [hw2]; exact IntWalk.wrap64_in _ ⟨by omega, by omega⟩
  clear hN hw2
  go_enter Try.func25, Try.ntmps25
  go_wp2_with fail
  refine HB.out.mono ?_
  rintro e w1 ⟨rfl, rfl⟩
  go_wp2_with fail
  refine (HL.out _).mono ?_
  rintro e w1 ⟨rfl, rfl⟩
  go_wp2
  exact KEY2.out
end Go.Proofs.Ytimgdkafennohaa.F
namespace Go.Proofs.Ytimgdkafennohaa.F
open Go.ChangeShapes Go.WideShapes Go.ChangeAt Go.RowKit Base
/-- What becomes of a queue. -/
def QPost (b g room : Nat) (xs : List Int) (v : Value) (w : World) (e : Ending) (w' : World) : Prop := e = .returned v ∧ QAt w' b g room xs ∧ Fr (fun k => k = b ∨ k = g) w w'
theorem fqpush_full {w : World} {b g room : Nat} {xs : List Int} (h : QAt w b g room xs) (hf : xs.length = room) (x : Int) : Calls Try.prog 41 #[.pointer (some ⟨b, 0, none⟩), .int .i64 x] w fun e w' => e = .returned (.int .i64 2) ∧ ∃ n, w' = w.drewN n := by
  have HR := Lib.hid (fqroom h)
  rw [hf, Int.sub_self] at HR
  clear h hf
  go_enter Try.func41, Try.ntmps41
  go_wp2_with fail
  refine HR.out.mono ?_
  rintro e w1 ⟨rfl, n, rfl⟩
  go_wp2
  go_ret
  exact ⟨rfl, n, rfl⟩
theorem fqpush_nil (x : Int) (w : World) : Calls Try.prog 41 #[.pointer none, .int .i64 x] w fun e w' => e = .returned (.int .i64 2) ∧ ∃ n, w' = w.drewN n := by
  go_enter Try.func41, Try.ntmps41
  go_wp2_with fail
  refine (fqroom_nil _).mono ?_
  rintro e w1 ⟨rfl, n, rfl⟩
  go_wp2
  go_ret
  exact ⟨rfl, n, rfl⟩
set_option maxHeartbeats 1000000 in
set_option maxRecDepth 100000 in
theorem fqpush_ok {w : World} {b g room : Nat} {xs : List Int} (h : QAt w b g room xs) (hf : xs.length < room) (x : Int) : Calls Try.prog 41 #[.pointer (some ⟨b, 0, none⟩), .int .i64 x] w (QPost b g room (xs ++ [x]) (.int .i64 0) w) := by
  have HR := Lib.hid (fqroom h)
  obtain ⟨hr, hl, hbg, k, N, f, cur, hk, hN, hrN, hfN, h8, h9, h10⟩ := h
  have hp : 2 ^ k ≤ 2 ^ 16 := Nat.pow_le_pow_right (by omega) hk
  have HP : Hid (∀ X, Calls Try.prog 43 #[.pointer (some ⟨b, 0, none⟩), .int .i64 (xs.length : Int)] (w.drewN X) fun e w' => e = .returned (.int .i64 (((f + xs.length) % N : Nat) : Int)) ∧ w.drewN X = w') := Lib.hid fun X => fqplace (w := w.drewN X) (n := xs.length) (room := room) h8 hk hN hfN xs.length (by omega)
  have hpl : (f + xs.length) % N < N := Nat.mod_lt _ (by omega)
  have KEY : Hid (∀ q, QPost b g room (xs ++ [x]) (.int .i64 0) w (.returned (.int .i64 0)) (((w.setCell ⟨g, (f + xs.length) % N, none⟩ (.int .i64 x)).setCell ⟨b, 2, none⟩ (.int .i64 ((xs.length : Int) + 1))).drewN q)) := Lib.hid fun q => by
    have e9 : ((w.setCell ⟨g, (f + xs.length) % N, none⟩ (.int .i64 x)).setCell ⟨b, 2, none⟩ (.int .i64 ((xs.length : Int) + 1))).heap[g]? = some (.cells (cur.setIfInBounds ((f + xs.length) % N) (.int .i64 x)) 3) :=
      (Below.heap_setCell _ _ _ _ (fun e => hbg e.symm)).trans (heap_setCell_at h9)
    have e8 : ((w.setCell ⟨g, (f + xs.length) % N, none⟩ (.int .i64 x)).setCell ⟨b, 2, none⟩ (.int .i64 ((xs.length : Int) + 1))).heap[b]? = some (boxQ g N f (xs ++ [x]).length room) := by
      have h8' : (w.setCell ⟨g, (f + xs.length) % N, none⟩ (.int .i64 x)).heap[b]? = some (boxQ g N f xs.length room) := (Below.heap_setCell _ _ _ _ hbg).trans h8
      rw [boxQ] at h8'
      rw [heap_setCell_at h8', List.length_append, List.length_singleton, boxQ]
      simp
    refine ⟨rfl, ⟨hr, by rw [List.length_append, List.length_singleton]; omega, hbg, k, N, f, _, hk, hN, hrN, hfN, e8, e9, h10.push (by omega) x⟩, ?_⟩
    exact (((Fr.refl _ w).setCell (.inr rfl) _ _).setCell (.inl rfl) _ _).drewN q
  obtain ⟨hb, c0, c1, c2, c3⟩ := cellsQ h8
  obtain ⟨f1, f2⟩ := frozQ h8
  have hgs := heap_lt h9
  have cg : ∃ z, w.cell? ⟨g, (f + xs.length) % N, none⟩ = some z := by
    have hs := h10.1
    refine ⟨cur[(f + xs.length) % N]'(by omega), by simp [World.cell?, h9]⟩
  have fg : w.frozen? ⟨g, (f + xs.length) % N, none⟩ = false := by simp [World.frozen?, h9]
  obtain ⟨z, cg⟩ := cg
  have hne : ((room : Int) - (xs.length : Int) == 0) = false := by rw [beq_eq_false_iff_ne]; omega
  have hl6 : (xs.length : Int) ≤ 65536 := by omega
  generalize QPost b g room (xs ++ [x]) (.int .i64 0) w = Post at KEY ⊢
  generalize (f + xs.length) % N = p at KEY HP hpl cg fg
  generalize xs.length = n at *
  clear h8 h9 h10 hN hf hl
  go_enter Try.func41, Try.ntmps41
  go_wp2_with fail
  refine HR.out.mono ?_
  rintro e w1 ⟨rfl, nq, rfl⟩
  go_wp2_with fail
  go_region_held3 (fun w' => w'.cell? ⟨b, 0, none⟩ = some (.slice (some ⟨g, 0, none⟩) N N) ∧ w'.cell? ⟨b, 2, none⟩ = some (.int .i64 n))
    (first | (simp [*]; done) | (refine ⟨?_, ?_⟩ <;> first | (simp [*]; done) | ((try dsimp only); refine (World.cell?_setCell_other _ _ _ _ (by simp)).trans ?_; simp [*]; done)))
    (first | (go_at_call 43; refine (HP.out _).mono ?_; rintro e wx ⟨rfl, rfl⟩))
  go_wp2
  exact KEY.out _
end Go.Proofs.Ytimgdkafennohaa.F
namespace Go.Proofs.Ytimgdkafennohaa.F
open Go.ChangeShapes Go.WideShapes Go.ChangeAt Go.RowKit Base
/-- What Pop leaves. -/
def PopQ (b g room : Nat) (xs : List Int) (w : World) (e : Ending) (w' : World) : Prop := QPost b g room xs.tail (fstV xs) w e w'
set_option maxHeartbeats 1000000 in
set_option maxRecDepth 100000 in
theorem fqpop {w : World} {b g room : Nat} {xs : List Int} (h : QAt w b g room xs) : Calls Try.prog 27 #[.pointer (some ⟨b, 0, none⟩)] w (PopQ b g room xs w) := by
  have HF := Lib.hid (fqfirst h)
  cases xs with
  | nil =>
    have KEY : Hid (∀ q, PopQ b g room [] w (.returned (.tuple #[.int .i64 0, .bool false])) (w.drewN q)) := Lib.hid fun q => ⟨rfl, h.below (below_drewN (Below.refl _ _) q), (Fr.refl _ w).drewN q⟩
    unfold fstV at HF
    simp only [List.headD_nil, List.isEmpty_nil, Bool.not_true] at HF
    generalize PopQ b g room [] w = Post at KEY ⊢
    clear h
    go_enter Try.func27, Try.ntmps27
    go_wp2_with fail
    refine HF.out.mono ?_
    rintro e w1 ⟨rfl, n, rfl⟩
    go_wp2
    exact KEY.out _
  | cons x xs =>
    obtain ⟨hr, hl, hbg, k, N, f, cur, hk, hN, hrN, hfN, h8, h9, h10⟩ := h
    have hl0 : xs.length + 1 ≤ room := by simpa using hl
    have HP : Hid (∀ X, Calls Try.prog 43 #[.pointer (some ⟨b, 0, none⟩), .int .i64 1] (w.drewN X) fun e w' => e = .returned (.int .i64 (((f + 1) % N : Nat) : Int)) ∧ w.drewN X = w') := Lib.hid fun X => fqplace (w := w.drewN X) (n := (x :: xs).length) (room := room) h8 hk hN hfN 1 (by omega)
    have hpl : (f + 1) % N < N := Nat.mod_lt _ (by omega)
    have KEY : Hid (∀ q, PopQ b g room (x :: xs) w (.returned (.tuple #[.int .i64 x, .bool true])) (((w.setCell ⟨b, 1, none⟩ (.int .i64 (((f + 1) % N : Nat) : Int))).setCell ⟨b, 2, none⟩ (.int .i64 (xs.length : Int))).drewN q)) := Lib.hid fun q => by
      have e9 : ((w.setCell ⟨b, 1, none⟩ (.int .i64 (((f + 1) % N : Nat) : Int))).setCell ⟨b, 2, none⟩ (.int .i64 (xs.length : Int))).heap[g]? = some (.cells cur 3) :=
        (Below.heap_setCell _ _ _ _ (fun e => hbg e.symm)).trans ((Below.heap_setCell _ _ _ _ (fun e => hbg e.symm)).trans h9)
      have e8 : ((w.setCell ⟨b, 1, none⟩ (.int .i64 (((f + 1) % N : Nat) : Int))).setCell ⟨b, 2, none⟩ (.int .i64 (xs.length : Int))).heap[b]? = some (boxQ g N ((f + 1) % N) xs.length room) := by
        rw [boxQ] at h8
        rw [heap_setCell_at (heap_setCell_at h8), boxQ]
        simp
      exact ⟨rfl, ⟨hr, (by simp only [List.tail_cons]; omega), hbg, k, N, (f + 1) % N, cur, hk, hN, hrN, hpl, e8, e9, h10.pop⟩, (((Fr.refl _ w).setCell (.inl rfl) _ _).setCell (.inl rfl) _ _).drewN q⟩
    obtain ⟨hb, c0, c1, c2, c3⟩ := cellsQ h8
    obtain ⟨f1, f2⟩ := frozQ h8
    have e1 : ((x :: xs).length : Int) - 1 = (xs.length : Int) := by simp
    have hl6 : 1 ≤ ((x :: xs).length : Int) ∧ ((x :: xs).length : Int) ≤ 65536 := by rw [List.length_cons]; omega
    obtain ⟨hl7, hl8⟩ := hl6
    unfold fstV at HF
    simp only [List.headD_cons, List.isEmpty_cons, Bool.not_false] at HF
    generalize PopQ b g room (x :: xs) w = Post at KEY ⊢
    generalize (f + 1) % N = p at KEY HP hpl
    generalize (x :: xs).length = m at *
    generalize xs.length = n at *
    clear h8 h9 h10 hN hl
    go_enter Try.func27, Try.ntmps27
    go_wp2_with fail
    refine HF.out.mono ?_
    rintro e w1 ⟨rfl, nq, rfl⟩
    go_wp2_with fail
    refine (HP.out _).mono ?_
    rintro e w1 ⟨rfl, rfl⟩
    go_wp2
    exact KEY.out _
theorem fqpop_nil (w : World) : Calls Try.prog 27 #[.pointer none] w fun e w' => e = .returned (fstV []) ∧ w = w' := by
  go_enter Try.func27, Try.ntmps27
  go_wp2_with fail
  refine (fqfirst_nil _).mono ?_
  rintro e w1 ⟨rfl, rfl⟩
  unfold fstV
  go_wp2
  go_ret2
  exact ⟨rfl, rfl⟩
/-- What a call that makes a list of ints leaves: one of its own. -/
def OwnNew (xs : List Int) (w : World) (e : Ending) (w' : World) : Prop := ∃ v, e = .returned v ∧ Lst.OwnI w.heap.size w' v xs ∧ Below w.heap.size w w'
end Go.Proofs.Ytimgdkafennohaa.F
