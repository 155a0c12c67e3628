/-
  Contracts of small functions, several texts laid into one. Not a statement of the seat.
-/
import Derived.Test.YtpbkclciipmonaaFq1
import Derived.Deep.RegionHeld3
import Derived.Deep.OwnRows
import Derived.Lib.ItoaNum
import Derived.Test.YtpbkclciipmonaaLstAp
import Derived.Test.YtpbkclciipmonaaFs1
namespace Go.Proofs.Ytpbkclciipmonaa.F
open Go.ChangeShapes Go.WideShapes Go.ChangeAt Go.RowKit Base
/-- How long a ring is made. -/
theorem ring_len (r : Nat) (hr : r ≤ 65536) : r ≤ 2 ^ Lib.bitLen (max r 1 - 1) ∧ Lib.bitLen (max r 1 - 1) ≤ 16 := by
  unfold Lib.bitLen
  by_cases h0 : max r 1 - 1 = 0
  · rw [h0, Lib.bitLenAux_zero]; omega
  · obtain ⟨h1, h2, h3⟩ := Lib.bitLenAux_bounds 64 (max r 1 - 1) (by omega) h0
    refine ⟨by omega, ?_⟩
    have h4 : 2 ^ (Lib.bitLenAux 64 (max r 1 - 1) - 1) < 2 ^ 16 := by omega
    have := (Nat.pow_lt_pow_iff_right (by decide : 1 < 2)).1 h4
    omega
/-- What New leaves. -/
def NewQ (n : Int) (w : World) (e : Ending) (w' : World) : Prop := ∃ b g, e = .returned (.pointer (some ⟨b, 0, none⟩)) ∧ QAt w' b g (roomOf n) [] ∧ w.heap.size ≤ b ∧ w.heap.size ≤ g ∧ Below w.heap.size w w'
set_option maxHeartbeats 1000000 in
set_option maxRecDepth 100000 in
theorem fqnew (n : Int) (w : World) : Calls Try.prog 28 #[.int .i64 n] w (NewQ n w) := by
  have hr := roomOf_le n
  obtain ⟨hl1, hl2⟩ := ring_len (roomOf n) hr
  have HB := Lib.hid (fbounded n w)
  have KEY : ∀ k, roomOf n ≤ 2 ^ k → k ≤ 16 → NewQ n w (.returned (.pointer (some ⟨w.heap.size + 1, 0, none⟩))) ((w.alloc (.cells (madeCells #[.int .i64 0] (2 ^ k)) 3)).alloc (.cells #[.slice (some ⟨w.heap.size, 0, none⟩) (2 ^ k) (2 ^ k), .int .i64 0, .int .i64 0, .int .i64 ((roomOf n : Nat) : Int)] 103)) := fun k h1 h2 => by
    refine ⟨w.heap.size + 1, w.heap.size, rfl, ⟨hr, Nat.zero_le _, by omega, k, 2 ^ k, 0, _, h2, rfl, h1, Nat.two_pow_pos k, heap_alloc_at _ _ _ (by simp), heap_alloc_lt _ _ _ _ (heap_alloc_at _ _ _ rfl), Ring.nil (by simp [madeCells]) 0⟩, by omega, Nat.le_refl _, ((Below.refl _ _).alloc (Nat.le_refl _) _).alloc (by simp) _⟩
  have KEY2 := Lib.hid (KEY _ hl1 hl2)
  clear KEY
  obtain ⟨r, hr0⟩ : ∃ r, r = roomOf n := ⟨_, rfl⟩
  have hmk : ∀ wx k, k ≤ 16 → (Instr.makeSlice 29 (.int .i64 ((2 ^ k : Nat) : Int)) (.int .i64 ((2 ^ k : Nat) : Int))).run Try.prog wx = .ok (.slice (some ⟨wx.heap.size, 0, none⟩) (2 ^ k) (2 ^ k)) (wx.alloc (.cells (madeCells #[.int .i64 0] (2 ^ k)) 3)) := fun wx k hk => by
    have hp : 2 ^ k ≤ 2 ^ 16 := Nat.pow_le_pow_right (by omega) hk
    exact run_make_row' (P := Try.prog) 29 3 (.int .i64 0) 8 Try.underlying29 Lst.int_info rfl .i64 .i64 (2 ^ k) (by omega) (by omega) wx
  generalize NewQ n w = Post at KEY2 ⊢
  rw [← hr0] at HB hl2 KEY2 hr
  clear hl1
  have HLN : ∀ wx, Calls Try.prog 65 #[.int .u64 ((max r 1 - 1 : Nat) : Int)] wx fun e w' => e = .returned (.int .i64 (Lib.bitLen (max r 1 - 1))) ∧ w' = wx := fun wx => by
    have := Try.bits_Len ((max r 1 - 1 : Nat) : Int) wx (by omega) (by omega)
    rwa [Int.toNat_natCast] at this
  have HL := Lib.hid HLN
  have hm := hmk
  generalize Lib.bitLen (max r 1 - 1) = k at HL KEY2 hl2
  have hw1 : max (r : Int) 1 - 1 = ((max r 1 - 1 : Nat) : Int) := by omega
  have hp : 2 ^ k ≤ 2 ^ 16 := Nat.pow_le_pow_right (by omega) hl2
  have hm1 := fun wx => hm wx k hl2
  have hw2 : ((2 : Int) ^ k) = ((2 ^ k : Nat) : Int) := by rw [Int.natCast_pow]; rfl
  clear HLN hmk hr0 hm
  generalize hN : (2 ^ k : Nat) = N at KEY2 hm1 hw2 hp
  have hw3 : wrap64 ((2 : Int) ^ k) = (N : Int) := by rw [hw2]; exact IntWalk.wrap64_in _ ⟨by omega, by omega⟩
  clear hN hw2
  go_enter Try.func28, Try.ntmps28
  go_wp2_with fail
  refine HB.out.mono ?_
  rintro e w1 ⟨rfl, rfl⟩
  go_wp2_with fail
  refine (HL.out _).mono ?_
  rintro e w1 ⟨rfl, rfl⟩
  go_wp2
  exact KEY2.out
end Go.Proofs.Ytpbkclciipmonaa.F
namespace Go.Proofs.Ytpbkclciipmonaa.F
open Go.ChangeShapes Go.WideShapes Go.ChangeAt Go.RowKit Base
/-- What becomes of a queue. -/
def QPost (b g room : Nat) (xs : List Int) (v : Value) (w : World) (e : Ending) (w' : World) : Prop := e = .returned v ∧ QAt w' b g room xs ∧ Fr (fun k => k = b ∨ k = g) w w'
theorem fqpush_full {w : World} {b g room : Nat} {xs : List Int} (h : QAt w b g room xs) (hf : xs.length = room) (x : Int) : Calls Try.prog 30 #[.pointer (some ⟨b, 0, none⟩), .int .i64 x] w fun e w' => e = .returned (.int .i64 2) ∧ ∃ n, w' = w.drewN n := by
  have HR := Lib.hid (fqroom h)
  rw [hf, Int.sub_self] at HR
  clear h hf
  go_enter Try.func30, Try.ntmps30
  go_wp2_with fail
  refine HR.out.mono ?_
  rintro e w1 ⟨rfl, n, rfl⟩
  go_wp2
  go_ret
  exact ⟨rfl, n, rfl⟩
theorem fqpush_nil (x : Int) (w : World) : Calls Try.prog 30 #[.pointer none, .int .i64 x] w fun e w' => e = .returned (.int .i64 2) ∧ ∃ n, w' = w.drewN n := by
  go_enter Try.func30, Try.ntmps30
  go_wp2_with fail
  refine (fqroom_nil _).mono ?_
  rintro e w1 ⟨rfl, n, rfl⟩
  go_wp2
  go_ret
  exact ⟨rfl, n, rfl⟩
set_option maxHeartbeats 1000000 in
set_option maxRecDepth 100000 in
theorem fqpush_ok {w : World} {b g room : Nat} {xs : List Int} (h : QAt w b g room xs) (hf : xs.length < room) (x : Int) : Calls Try.prog 30 #[.pointer (some ⟨b, 0, none⟩), .int .i64 x] w (QPost b g room (xs ++ [x]) (.int .i64 0) w) := by
  have HR := Lib.hid (fqroom h)
  obtain ⟨hr, hl, hbg, k, N, f, cur, hk, hN, hrN, hfN, h8, h9, h10⟩ := h
  have hp : 2 ^ k ≤ 2 ^ 16 := Nat.pow_le_pow_right (by omega) hk
  have HP : Hid (∀ X, Calls Try.prog 67 #[.pointer (some ⟨b, 0, none⟩), .int .i64 (xs.length : Int)] (w.drewN X) fun e w' => e = .returned (.int .i64 (((f + xs.length) % N : Nat) : Int)) ∧ w.drewN X = w') := Lib.hid fun X => fqplace (w := w.drewN X) (n := xs.length) (room := room) h8 hk hN hfN xs.length (by omega)
  have hpl : (f + xs.length) % N < N := Nat.mod_lt _ (by omega)
  have KEY : Hid (∀ q, QPost b g room (xs ++ [x]) (.int .i64 0) w (.returned (.int .i64 0)) (((w.setCell ⟨g, (f + xs.length) % N, none⟩ (.int .i64 x)).setCell ⟨b, 2, none⟩ (.int .i64 ((xs.length : Int) + 1))).drewN q)) := Lib.hid fun q => by
    have e9 : ((w.setCell ⟨g, (f + xs.length) % N, none⟩ (.int .i64 x)).setCell ⟨b, 2, none⟩ (.int .i64 ((xs.length : Int) + 1))).heap[g]? = some (.cells (cur.setIfInBounds ((f + xs.length) % N) (.int .i64 x)) 3) :=
      (Below.heap_setCell _ _ _ _ (fun e => hbg e.symm)).trans (heap_setCell_at h9)
    have e8 : ((w.setCell ⟨g, (f + xs.length) % N, none⟩ (.int .i64 x)).setCell ⟨b, 2, none⟩ (.int .i64 ((xs.length : Int) + 1))).heap[b]? = some (boxQ g N f (xs ++ [x]).length room) := by
      have h8' : (w.setCell ⟨g, (f + xs.length) % N, none⟩ (.int .i64 x)).heap[b]? = some (boxQ g N f xs.length room) := (Below.heap_setCell _ _ _ _ hbg).trans h8
      rw [boxQ] at h8'
      rw [heap_setCell_at h8', List.length_append, List.length_singleton, boxQ]
      simp
    refine ⟨rfl, ⟨hr, by rw [List.length_append, List.length_singleton]; omega, hbg, k, N, f, _, hk, hN, hrN, hfN, e8, e9, h10.push (by omega) x⟩, ?_⟩
    exact (((Fr.refl _ w).setCell (.inr rfl) _ _).setCell (.inl rfl) _ _).drewN q
  obtain ⟨hb, c0, c1, c2, c3⟩ := cellsQ h8
  obtain ⟨f1, f2⟩ := frozQ h8
  have hgs := heap_lt h9
  have cg : ∃ z, w.cell? ⟨g, (f + xs.length) % N, none⟩ = some z := by
    have hs := h10.1
    refine ⟨cur[(f + xs.length) % N]'(by omega), by simp [World.cell?, h9]⟩
  have fg : w.frozen? ⟨g, (f + xs.length) % N, none⟩ = false := by simp [World.frozen?, h9]
  obtain ⟨z, cg⟩ := cg
  have hne : ((room : Int) - (xs.length : Int) == 0) = false := by rw [beq_eq_false_iff_ne]; omega
  have hl6 : (xs.length : Int) ≤ 65536 := by omega
  generalize QPost b g room (xs ++ [x]) (.int .i64 0) w = Post at KEY ⊢
  generalize (f + xs.length) % N = p at KEY HP hpl cg fg
  generalize xs.length = n at *
  clear h8 h9 h10 hN hf hl
  go_enter Try.func30, Try.ntmps30
  go_wp2_with fail
  refine HR.out.mono ?_
  rintro e w1 ⟨rfl, nq, rfl⟩
  go_wp2_with fail
  go_region_held3 (fun w' => w'.cell? ⟨b, 0, none⟩ = some (.slice (some ⟨g, 0, none⟩) N N) ∧ w'.cell? ⟨b, 2, none⟩ = some (.int .i64 n))
    (first | (simp [*]; done) | (refine ⟨?_, ?_⟩ <;> first | (simp [*]; done) | ((try dsimp only); refine (World.cell?_setCell_other _ _ _ _ (by simp)).trans ?_; simp [*]; done)))
    (first | (go_at_call 67; refine (HP.out _).mono ?_; rintro e wx ⟨rfl, rfl⟩))
  go_wp2
  exact KEY.out _
end Go.Proofs.Ytpbkclciipmonaa.F
namespace Go.Proofs.Ytpbkclciipmonaa.F
open Go.ChangeShapes Go.WideShapes Go.ChangeAt Go.RowKit Base
/-- What Pop leaves. -/
def PopQ (b g room : Nat) (xs : List Int) (w : World) (e : Ending) (w' : World) : Prop := QPost b g room xs.tail (fstV xs) w e w'
/-- What a call that makes a list of ints leaves: one of its own. -/
def OwnNew (xs : List Int) (w : World) (e : Ending) (w' : World) : Prop := ∃ v, e = .returned v ∧ Lst.OwnI w.heap.size w' v xs ∧ Below w.heap.size w w'
theorem fqlist_nil (w : World) : Calls Try.prog 33 #[.pointer none] w (OwnNew [] w) := by
  go_enter Try.func33, Try.ntmps33
  go_wp2_with fail
  refine (fqlen_nil _).mono ?_
  rintro e w1 ⟨rfl, rfl⟩
  go_wp2_with fail
  refine wp_loop_rounds 1 ?_
  rw [rounds_succ]
  go_wp2
  go_ret
  exact ⟨_, rfl, Lst.OwnI.nil _ _, Below.refl _ _⟩
set_option maxHeartbeats 1000000 in
set_option maxRecDepth 100000 in
theorem fqlist {w : World} {b g room : Nat} {xs : List Int} (h : QAt w b g room xs) : Calls Try.prog 33 #[.pointer (some ⟨b, 0, none⟩)] w (OwnNew xs w) := by
  have HL := Lib.hid (fqlen h)
  have HH := Lib.hid h
  obtain ⟨hr, hl, hbg, k, N, f, cur, hk, hN, hrN, hfN, h8, h9, h10⟩ := h
  have h8l := heap_lt h8
  have h9l := heap_lt h9
  have HP : Hid (∀ X (i : Nat), i ≤ 65536 → Below w.heap.size w X → Calls Try.prog 67 #[.pointer (some ⟨b, 0, none⟩), .int .i64 (i : Int)] X fun e w' => e = .returned (.int .i64 (((f + i) % N : Nat) : Int)) ∧ X = w') := Lib.hid fun X i hi hX => fqplace (n := xs.length) (room := room) ((hX.block b h8l).trans h8) hk hN hfN i hi
  have HC : Hid (∀ X, Below w.heap.size w X → X.cell? ⟨b, 0, none⟩ = some (.slice (some ⟨g, 0, none⟩) N N) ∧ ∀ i, i < xs.length → X.cell? ⟨g, (f + i) % N, none⟩ = some (.int .i64 (xs.getD i 0))) := Lib.hid fun X hX => by
    refine ⟨(cellsQ ((hX.block b h8l).trans h8)).2.1, fun i hi => ?_⟩
    have := h10.2 i hi
    simp [World.cell?, (hX.block g h9l).trans h9, this]
  have hm : ∀ i, (f + i) % N < N := fun i => Nat.mod_lt _ (by omega)
  clear h8 h9 h10 hN hk
  go_enter Try.func33, Try.ntmps33
  go_wp2_with fail
  refine HL.out.mono ?_
  rintro e w1 ⟨rfl, rfl⟩
  go_wp2_with fail
  go_loopw [3, 7] (fun s3 s7 wr => ∃ i : Nat, s7 = .int .i64 (i : Int) ∧ i ≤ xs.length ∧ Hid (Lst.OwnI w.heap.size wr s3 (xs.take i)) ∧ Hid (Below w.heap.size w wr)) (fun _ s7 _ => xs.length - (intOf s7).toNat)
  case atStart => exact ⟨0, rfl, Nat.zero_le _, Lib.hid (Lst.OwnI.nil _ _), Lib.hid (Below.refl _ _)⟩
  case round =>
    obtain ⟨i, rfl, hi, HO, HB⟩ := hrel
    by_cases hlt : i < xs.length
    · obtain ⟨c0, cc⟩ := HC.out wr HB.out
      have cx := cc i hlt
      have hmi := hm i
      have hx : Hid (xs.take (i + 1) = xs.take i ++ [xs.getD i 0]) := Lib.hid (by
        rw [List.take_add_one, List.getElem?_eq_getElem hlt, List.getD_eq_getElem?_getD, List.getElem?_eq_getElem hlt]; rfl)
      have HP1 : Hid (∀ X, Below w.heap.size w X → Calls Try.prog 67 #[.pointer (some ⟨b, 0, none⟩), .int .i64 (i : Int)] X fun e w' => e = .returned (.int .i64 (((f + i) % N : Nat) : Int)) ∧ X = w') := Lib.hid fun X hX => HP.out X i (by omega) hX
      have HTL : Hid ((xs.take i).length ≤ 65536) := Lib.hid (by rw [List.length_take]; omega)
      clear cc HC HP
      generalize (f + i) % N = p at cx hmi HP1
      generalize xs.getD i 0 = x at cx hx
      have HS : Hid (∀ (X w' : World) (v' : Value), Lst.OwnI w.heap.size w' v' (xs.take i ++ [x]) → (X.alloc (.cells #[.int .i64 x] 3)).grownBy w' u3.ownBlock → Below w.heap.size w X → Hid (Lst.OwnI w.heap.size w' v' (xs.take (i + 1)) ∧ Below w.heap.size w w')) := Lib.hid fun X w' v' ho hg hX => Lib.hid ⟨by rw [hx.out]; exact ho, (hX.alloc hX.size _).grown hg (by have := hX.size; simp; omega) (Lst.own_base HO.out)⟩
      go_wp2_with fail
      go_region_law (first
        | (refine Lst.step_append_ints rfl (.tmp 10) (.tmp 20) rfl (by have := HB.out.size; simp; omega) (Lst.OwnI.lay HO.out rfl _) (by simp [Act.eval]) (Lst.int_lit x _) (fun n c e => by cases e) (by simp [Act.eval]) (by have := HTL.out; simp; omega) ?_; intro v' w' ho hg hat; have HE := HS.out _ _ _ ho hg (below_drewN HB.out 1); clear ho hg hat)
        | (go_simp; go_at_call 67; refine (HP1.out _ (below_drewN HB.out 1)).mono ?_; rintro e wx ⟨rfl, rfl⟩))
      all_goals go_wp2
      all_goals go_roundw
      all_goals first | exact ⟨i + 1, by go_num, by omega, Lib.hid HE.out.1, Lib.hid HE.out.2⟩ | (simp [intOf]; omega)
    · have e : i = xs.length := by omega
      have HE := Lib.hid HO.out
      rw [e, List.take_length] at HE
      clear HO hm
      go_wp2
      go_ret
      exact ⟨_, rfl, HE.out, HB.out⟩
end Go.Proofs.Ytpbkclciipmonaa.F
namespace Go.Proofs.Ytpbkclciipmonaa.F
open Go.ChangeShapes Go.WideShapes Go.ChangeAt Go.RowKit Base Go.Sort
/-- Block b is a stack of that room with xs, the last one on top, which lie in block o. -/
def SAt (w : World) (b : Nat) (o : Option Nat) (room : Nat) (xs : List Int) : Prop :=
  room ≤ 65536 ∧ xs.length ≤ room ∧ ∃ v, w.heap[b]? = some (.cells #[v, .int .i64 (room : Int)] 107) ∧ Lst.OwnI 0 w v xs ∧ v.ownBlock = o
theorem neSt : 107 ≠ 3 := by decide
theorem SAt.lt {w : World} {b : Nat} {o : Option Nat} {room : Nat} {xs : List Int} (h : SAt w b o room xs) : b < w.heap.size ∧ ∀ g, o = some g → g < w.heap.size ∧ g ≠ b := by
  obtain ⟨_, _, v, hb, hown, rfl⟩ := h
  refine ⟨heap_lt hb, fun g hg => ⟨(World.ownsRow.lt hown g hg).2, fun e => ?_⟩⟩
  have := own_ne hown hb neSt
  rw [e] at hg
  exact this hg
theorem SAt.fr {w w' : World} {F : Nat → Prop} {b : Nat} {o : Option Nat} {room : Nat} {xs : List Int} (h : SAt w b o room xs) (hf : Fr F w w') (hb : ¬ F b) (ho : ∀ g, o = some g → ¬ F g) : SAt w' b o room xs := by
  have hl := h.lt
  obtain ⟨h1, h2, v, hv, hown, rfl⟩ := h
  refine ⟨h1, h2, v, (hf.block hl.1 hb).trans hv, ?_, rfl⟩
  refine ⟨hown.1, ?_⟩
  rcases hown.2 with hn | ⟨g, cap, cur, rfl, hB, hg, rest⟩
  · exact .inl hn
  · exact .inr ⟨g, cap, cur, rfl, hB, (hf.block (heap_lt hg) (ho g rfl)).trans hg, rest⟩
theorem SAt.below {w w' : World} {b : Nat} {o : Option Nat} {room : Nat} {xs : List Int} (h : SAt w b o room xs) (hb : Below w.heap.size w w') : SAt w' b o room xs :=
  h.fr (Fr.of_below (F := fun _ => False) hb) (fun e => e) (fun _ _ e => e)
theorem SAt.open_ {w : World} {b : Nat} {o : Option Nat} {room : Nat} {xs : List Int} (h : SAt w b o room xs) : ∃ p c, (w.cell? ⟨b, 0, none⟩ = some (.slice p xs.length c) ∧ w.cell? ⟨b, 1, none⟩ = some (.int .i64 (room : Int))) ∧ w.frozen? ⟨b, 0, none⟩ = false ∧ Lst.OwnI 0 w (.slice p xs.length c) xs ∧ (Value.slice p xs.length c).ownBlock = o ∧ w.heap[b]? = some (.cells #[.slice p xs.length c, .int .i64 (room : Int)] 107) := by
  obtain ⟨_, _, v, hb, hown, ho⟩ := h
  obtain ⟨p, c, rfl⟩ : ∃ p c, v = .slice p xs.length c := by
    rcases hown.2 with ⟨hv, h0⟩ | ⟨g, cap, cur, hv, _⟩
    · exact ⟨none, 0, by rw [hv, h0]⟩
    · exact ⟨_, _, hv⟩
  exact ⟨p, c, by simp [World.cell?, hb], by simp [World.frozen?, hb], hown, ho, hb⟩
/-- What New leaves. -/
def NewS (n : Int) (w : World) (e : Ending) (w' : World) : Prop := e = .returned (.pointer (some ⟨w.heap.size, 0, none⟩)) ∧ SAt w' w.heap.size none (roomOf n) [] ∧ Below w.heap.size w w'
theorem fsnew (n : Int) (w : World) : Calls Try.prog 29 #[.int .i64 n] w (NewS n w) := by
  have HB := Lib.hid (fbounded n w)
  have KEY : Hid (NewS n w (.returned (.pointer (some ⟨w.heap.size, 0, none⟩))) (w.alloc (.cells #[.slice none 0 0, .int .i64 ((roomOf n : Nat) : Int)] 107))) := Lib.hid
    ⟨rfl, ⟨roomOf_le n, Nat.zero_le _, .slice none 0 0, heap_alloc_at _ _ _ rfl, Lst.OwnI.nil _ _, rfl⟩, (Below.refl _ _).alloc (Nat.le_refl _) _⟩
  generalize NewS n w = Post at KEY ⊢
  go_enter Try.func29, Try.ntmps29
  go_wp2_with fail
  refine HB.out.mono ?_
  rintro e w1 ⟨rfl, rfl⟩
  go_wp2
  exact KEY.out
theorem fsproom {w : World} {b : Nat} {o : Option Nat} {room : Nat} {xs : List Int} (h : SAt w b o room xs) : Calls Try.prog 85 #[.pointer (some ⟨b, 0, none⟩)] w (IntDrew ((room : Int) - (xs.length : Int)) w) := by
  have h1 := h.1
  have h2 := h.2.1
  obtain ⟨p, c, ⟨c0, c1⟩, _⟩ := h.open_
  have e1 : IntKind.i64.wrap ((room : Int) - (xs.length : Int)) = (room : Int) - (xs.length : Int) := by rw [IntKind.wrap_i64]; omega
  clear h
  go_enter Try.func85, Try.ntmps85
  go_wp2
  go_quiet (fail)
  go_wp2
  go_ret
  exact ⟨rfl, _, rfl⟩
theorem fsroom {w : World} {b : Nat} {o : Option Nat} {room : Nat} {xs : List Int} (h : SAt w b o room xs) : Calls Try.prog 68 #[.pointer (some ⟨b, 0, none⟩)] w (IntDrew ((room : Int) - (xs.length : Int)) w) := by
  have HS := Lib.hid (fsproom h)
  go_enter Try.func68, Try.ntmps68
  go_wp2_with fail
  refine HS.out.mono ?_
  rintro e w1 ⟨rfl, n, rfl⟩
  go_wp2
  go_ret
  exact ⟨rfl, _, rfl⟩
theorem fsroom_nil (w : World) : Calls Try.prog 68 #[.pointer none] w (IntDrew 0 w) := by
  go_enter Try.func68, Try.ntmps68
  go_wp2
  go_ret
  exact ⟨rfl, 0, rfl⟩
end Go.Proofs.Ytpbkclciipmonaa.F
namespace Go.Proofs.Ytpbkclciipmonaa.F
open Go.ChangeShapes Go.WideShapes Go.ChangeAt Go.RowKit Base Go.Sort
/-- What becomes of a stack. -/
def SPost (b : Nat) (o : Option Nat) (room : Nat) (xs : List Int) (v : Value) (w : World) (e : Ending) (w' : World) : Prop := e = .returned v ∧ ∃ o', SAt w' b o' room xs ∧ Mv o o' w ∧ Fr (ArF b o) w w'
theorem SAt.store {w : World} {b : Nat} {o : Option Nat} {room : Nat} {xs : List Int} {v' : Value} (h : ∃ v, w.heap[b]? = some (.cells #[v, .int .i64 (room : Int)] 107)) (hown : Lst.OwnI 0 w v' xs) (ho : v'.ownBlock = o) (h1 : room ≤ 65536) (h2 : xs.length ≤ room) : SAt (w.setCell ⟨b, 0, none⟩ v') b o room xs := by
  obtain ⟨v, hb⟩ := h
  have hne := own_ne hown hb neSt
  refine ⟨h1, h2, v', by simp [World.setCell, Array.getElem?_modify, hb], ?_, ho⟩
  have hown' : w.ownsRow 0 3 1 v' xs.length (xs.map (Value.int .i64)) := hown
  exact hown'.kept (row := some b) ⟨rfl, rfl, rfl, by simp [World.setCell], fun k _ hk => Below.heap_setCell _ _ _ _ (fun e => hk (by simp [e]))⟩ (.inr hne)
theorem fspush_full {w : World} {b : Nat} {o : Option Nat} {room : Nat} {xs : List Int} (h : SAt w b o room xs) (hf : xs.length = room) (x : Int) : Calls Try.prog 31 #[.pointer (some ⟨b, 0, none⟩), .int .i64 x] w fun e w' => e = .returned (.int .i64 2) ∧ ∃ n, w' = w.drewN n := by
  have HR := Lib.hid (fsroom h)
  rw [hf, Int.sub_self] at HR
  clear h hf
  go_enter Try.func31, Try.ntmps31
  go_wp2_with fail
  refine HR.out.mono ?_
  rintro e w1 ⟨rfl, n, rfl⟩
  go_wp2
  go_ret
  exact ⟨rfl, n, rfl⟩
theorem fspush_nil (x : Int) (w : World) : Calls Try.prog 31 #[.pointer none, .int .i64 x] w fun e w' => e = .returned (.int .i64 2) ∧ ∃ n, w' = w.drewN n := by
  go_enter Try.func31, Try.ntmps31
  go_wp2_with fail
  refine (fsroom_nil _).mono ?_
  rintro e w1 ⟨rfl, n, rfl⟩
  go_wp2
  go_ret
  exact ⟨rfl, n, rfl⟩
set_option maxHeartbeats 1000000 in
set_option maxRecDepth 100000 in
theorem fsput {w : World} {b : Nat} {o : Option Nat} {room : Nat} {xs : List Int} (h : SAt w b o room xs) (hf : xs.length < room) (x : Int) : Calls Try.prog 69 #[.pointer (some ⟨b, 0, none⟩), .int .i64 x] w (SPost b o room (xs ++ [x]) (.tuple #[]) w) := by
  have hlt := h.lt
  have hr := h.1
  have hl := h.2.1
  obtain ⟨p, c, ⟨c0, c1⟩, f0, hown, ho, hb⟩ := h.open_
  have HO := Lib.hid hown
  have HS : Hid (∀ (w' : World) (v' : Value), Lst.OwnI 0 w' v' (xs ++ [x]) → (w.alloc (.cells #[.int .i64 x] 3)).grownBy w' (Value.slice p xs.length c).ownBlock → (v'.ownBlock = (Value.slice p xs.length c).ownBlock ∨ v'.ownBlock = some (w.alloc (.cells #[.int .i64 x] 3)).heap.size) →
      ∃ g cap, v' = .slice (some ⟨g, 0, none⟩) (xs.length + 1) cap ∧ w'.cell? ⟨b, 0, none⟩ = some (.slice p xs.length c) ∧ w'.frozen? ⟨b, 0, none⟩ = false ∧ Hid (SPost b o room (xs ++ [x]) (.tuple #[]) w (.returned (.tuple #[])) (w'.setCell ⟨b, 0, none⟩ v'))) := Lib.hid fun w' v' ho' hg hat => by
    obtain ⟨g, cap, hv⟩ : ∃ g cap, v' = .slice (some ⟨g, 0, none⟩) (xs.length + 1) cap := by
      rcases ho'.form with ⟨h0, _⟩ | ⟨g, cap, hv, _⟩
      · simp at h0
      · exact ⟨g, cap, by simpa using hv⟩
    have hne : (Value.slice p xs.length c).ownBlock ≠ some b := fun e => (hlt.2 b (ho.symm.trans e)).2 rfl
    have hb1 := heap_alloc_lt w (.cells #[.int .i64 x] 3) _ _ hb
    have hb2 := (hg.block b (heap_lt hb1) (fun e => hne e.symm)).trans hb1
    have hFr : Fr (ArF b o) w w' := ((Fr.refl (ArF b o) w).alloc _).trans (Fr.of_grown (F := fun g => o = some g) hg (fun k hk => ho.symm.trans hk)) (fun g _ e => .inr e)
    refine ⟨g, cap, hv, by simp [World.cell?, hb2], by simp [World.frozen?, hb2], Lib.hid ⟨rfl, v'.ownBlock, SAt.store ⟨_, hb2⟩ ho' rfl hr (by rw [List.length_append, List.length_singleton]; omega), ?_, hFr.setCell (.inl rfl) 0 _⟩⟩
    rcases hat with h | h
    · exact .inl (h.trans ho)
    · exact .inr ⟨_, h, by simp⟩
  have hbl := heap_lt hb
  clear h hown ho hb hlt
  generalize SPost b o room (xs ++ [x]) (.tuple #[]) w = Post at HS ⊢
  go_enter Try.func69, Try.ntmps69
  go_wp2_with (at_builtin; refine Lst.append_ints rfl (.tmp 8) (.tmp 10) rfl (Nat.zero_le _) (Lst.OwnI.lay HO.out rfl _) rfl (Lst.int_lit x _) (fun n c e => by cases e) rfl (by simp; omega) ?_; intro v' w' ho hg hat; obtain ⟨g, cap, rfl, d0, e0, HE⟩ := HS.out _ _ ho hg hat; clear ho hg hat)
  go_end0
  exact HE.out
set_option maxHeartbeats 1000000 in
theorem fspush_ok {w : World} {b : Nat} {o : Option Nat} {room : Nat} {xs : List Int} (h : SAt w b o room xs) (hf : xs.length < room) (x : Int) : Calls Try.prog 31 #[.pointer (some ⟨b, 0, none⟩), .int .i64 x] w (SPost b o room (xs ++ [x]) (.int .i64 0) w) := by
  have HR := Lib.hid (fsroom h)
  have hne : ((room : Int) - (xs.length : Int) == 0) = false := by rw [beq_eq_false_iff_ne]; omega
  have HP : Hid (∀ n, Calls Try.prog 69 #[.pointer (some ⟨b, 0, none⟩), .int .i64 x] (w.drewN n) (SPost b o room (xs ++ [x]) (.tuple #[]) (w.drewN n))) := Lib.hid fun n => fsput (h.below (below_drewN (Below.refl _ _) n)) hf x
  clear h hf
  go_enter Try.func31, Try.ntmps31
  go_wp2_with fail
  refine HR.out.mono ?_
  rintro e w1 ⟨rfl, n, rfl⟩
  go_wp2_with fail
  refine (HP.out _).mono ?_
  rintro e w1 ⟨rfl, h1⟩
  have HH := Lib.hid h1
  clear h1
  go_wp2
  go_ret
  exact ⟨rfl, HH.out⟩
end Go.Proofs.Ytpbkclciipmonaa.F
namespace Go.Proofs.Ytpbkclciipmonaa.F
open Go.ChangeShapes Go.WideShapes Go.ChangeAt Go.RowKit Base Go.Sort
/-- What Pop leaves: the top is gone. -/
def PopS (b : Nat) (o : Option Nat) (room : Nat) (xs : List Int) (w : World) (e : Ending) (w' : World) : Prop := SPost b o room xs.dropLast (fstV xs.reverse) w e w'
theorem rev_empty (p : Option Addr) (c : Nat) (w : World) : Calls Try.prog 87 #[.slice p 0 c] w fun e w' => e = .returned (.tuple #[]) ∧ w' = w := Try.slices_Reverse_int_empty p c w
set_option maxHeartbeats 1000000 in
theorem fsdown {w : World} {b : Nat} {o : Option Nat} {room : Nat} {xs : List Int} (h : SAt w b o room xs) : Calls Try.prog 70 #[.pointer (some ⟨b, 0, none⟩)] w (OwnNew xs.reverse w) := by
  have hr := h.1
  have hl := h.2.1
  obtain ⟨p, c, ⟨c0, c1⟩, f0, hown, ho, hb⟩ := h.open_
  have HC : Hid (Calls Try.prog 86 #[.slice p xs.length c] w (OwnNew xs w)) := Lib.hid (by
    rcases hown.form with ⟨rfl, hv⟩ | ⟨g, cap, hv, _, _, _⟩
    · injection hv with e1 _ e3
      subst e1 e3
      exact (Try.slices_Clone_int_nil 0 0 w).mono fun e w' ⟨h1, h2⟩ => ⟨_, h1, Lst.OwnI.nil _ _, by rw [h2]; exact Below.refl _ _⟩
    · injection hv with e1 _ e3
      subst e1 e3
      rcases hown.ints (by omega) with ⟨_, rfl⟩ | ⟨g', o', c', hv', _, _, _, hcell⟩
      · exact (Try.slices_Clone_int_zero ⟨g, 0, none⟩ c w).mono fun e w' ⟨v, h1, h2, _, h4⟩ => ⟨v, h1, h2, h4⟩
      · injection hv' with f1 _ _
        injection f1 with f1
        injection f1 with f1 f4
        subst f1 f4
        refine (Try.slices_Clone_int g 0 xs.length c xs w (Nat.le_refl _) (by omega) hcell).mono fun e w' ⟨v, h1, h2, _, h4⟩ => ⟨v, h1, ?_, h4⟩
        rw [List.take_length] at h2
        exact h2)
  have HR : Hid (∀ (w' : World) (v : Value), Lst.OwnI w.heap.size w' v xs → Below w.heap.size w w' → Calls Try.prog 87 #[v] w' fun e w'' => e = .returned (.tuple #[]) ∧ Lst.OwnI w.heap.size w'' v xs.reverse ∧ Below w.heap.size w w'') := Lib.hid fun w' v h1 h2 => by
    rcases h1.form with ⟨rfl, rfl⟩ | ⟨g, cap, rfl, hB, _, _⟩
    · exact (rev_empty none 0 w').mono fun e w'' ⟨h3, h4⟩ => ⟨h3, by rw [h4]; exact Lst.OwnI.nil _ _, by rw [h4]; exact h2⟩
    · refine (Try.slices_Reverse_int g 0 cap xs w' h1.holds (by omega)).mono fun e w'' ⟨h3, n, h4⟩ => ⟨h3, by rw [h4]; exact h1.reversed, ?_⟩
      rcases h1.2 with ⟨hv, _⟩ | ⟨g', cap', cur, hv, _, hg, _⟩
      · cases hv
      · injection hv with e1 _ _
        injection e1 with e1
        injection e1 with e1
        subst e1
        rw [h4]
        exact Lst.reversed_below _ hg h2 hB
  clear h hown ho hb
  generalize xs.length = n at *
  go_enter Try.func70, Try.ntmps70
  go_wp2_with fail
  refine HC.out.mono ?_
  rintro e w1 ⟨v, rfl, h1, h2⟩
  have HR1 := Lib.hid (HR.out _ _ h1 h2)
  clear h1 h2
  go_wp2_with fail
  refine HR1.out.mono ?_
  rintro e w2 ⟨rfl, h1, h2⟩
  have H1 := Lib.hid h1
  have H2 := Lib.hid h2
  clear h1 h2
  go_wp2
  go_ret
  exact ⟨v, rfl, H1.out, H2.out⟩
theorem fslist {w : World} {b : Nat} {o : Option Nat} {room : Nat} {xs : List Int} (h : SAt w b o room xs) : Calls Try.prog 32 #[.pointer (some ⟨b, 0, none⟩)] w (OwnNew xs.reverse w) := by
  have HS := Lib.hid (fsdown h)
  clear h
  go_enter Try.func32, Try.ntmps32
  go_wp2_with fail
  refine HS.out.mono ?_
  rintro e w1 ⟨v, rfl, h1, h2⟩
  have H1 := Lib.hid h1
  have H2 := Lib.hid h2
  clear h1 h2
  go_wp2
  go_ret
  exact ⟨v, rfl, H1.out, H2.out⟩
end Go.Proofs.Ytpbkclciipmonaa.F
namespace Go.Proofs.Ytpbkclciipmonaa.F
open Go.ChangeShapes Go.WideShapes Go.ChangeAt Go.RowKit Base
/-- The blocks of a queue and of a stack. -/
def FF (qb qg sb : Nat) (so : Option Nat) (g : Nat) : Prop := (g = qb ∨ g = qg) ∨ ArF sb so g
def FI (w0 w : World) (qb qg sb : Nat) (so : Option Nat) (rq rs : Nat) (xq xs : List Int) (bs : List (Nat × Obj)) : Prop :=
  QAt w qb qg rq xq ∧ SAt w sb so rs xs ∧ Below w0.heap.size w0 w ∧ (∀ g, FF qb qg sb so g → w0.heap.size ≤ g) ∧ (qb ≠ sb ∧ qg ≠ sb ∧ so ≠ some qb ∧ so ≠ some qg) ∧ ∀ p ∈ bs, w.heap[p.1]? = some p.2 ∧ ¬ FF qb qg sb so p.1
section
variable {w0 w w' : World} {qb qg sb : Nat} {so : Option Nat} {rq rs : Nat} {xq xs : List Int} {bs : List (Nat × Obj)}
theorem FI.below (h : FI w0 w qb qg sb so rq rs xq xs bs) (hb : Below w.heap.size w w') : FI w0 w' qb qg sb so rq rs xq xs bs := by
  obtain ⟨h1, h2, h3, h4, h5, h6⟩ := h
  exact ⟨h1.below hb, h2.below hb, h3.trans (hb.mono h3.size), h4, h5, fun p hp => ⟨(hb.block _ (heap_lt (h6 p hp).1)).trans (h6 p hp).1, (h6 p hp).2⟩⟩
theorem FI.q {xq' : List Int} {v : Value} {e : Ending} (h : FI w0 w qb qg sb so rq rs xq xs bs) (hp : QPost qb qg rq xq' v w e w') : e = .returned v ∧ Hid (FI w0 w' qb qg sb so rq rs xq' xs bs) := by
  obtain ⟨h1, h2, h3, h4, h5, h6⟩ := h
  obtain ⟨he, k1, k2⟩ := hp
  refine ⟨he, Lib.hid ⟨k1, h2.fr k2 (fun k => ?_) (fun g hg k => ?_), ?_, h4, h5, fun p hp => ⟨(k2.block (heap_lt (h6 p hp).1) (fun k => (h6 p hp).2 (.inl k))).trans (h6 p hp).1, (h6 p hp).2⟩⟩⟩
  · rcases k with k | k
    · exact h5.1 k.symm
    · exact h5.2.1 k.symm
  · rcases k with k | k
    · exact h5.2.2.1 (by rw [hg, k])
    · exact h5.2.2.2 (by rw [hg, k])
  · have := (Fr.of_below (F := fun k => k = qb ∨ k = qg) h3).trans k2 (fun g _ k => k)
    exact this.below (fun g k => h4 g (.inl k)) (Nat.le_refl _)
theorem FI.s {xs' : List Int} {v : Value} {e : Ending} (h : FI w0 w qb qg sb so rq rs xq xs bs) (hp : SPost sb so rs xs' v w e w') : e = .returned v ∧ ∃ so', Hid (FI w0 w' qb qg sb so' rq rs xq xs' bs) := by
  obtain ⟨h1, h2, h3, h4, h5, h6⟩ := h
  obtain ⟨he, so', k1, k2, k3⟩ := hp
  have hlq := h1.lt
  have hnew : ∀ g, so' = some g → so = some g ∨ w.heap.size ≤ g := fun g hg => by
    rcases k2 with rfl | ⟨g', e', hg'⟩
    · exact .inl hg
    · rw [hg] at e'; injection e' with e'; exact .inr (e' ▸ hg')
  refine ⟨he, so', Lib.hid ⟨h1.fr k3 (fun k => ?_) (fun k => ?_), k1, ?_, fun g hg => ?_, ⟨h5.1, h5.2.1, fun e => ?_, fun e => ?_⟩, fun p hp => ?_⟩⟩
  · rcases k with k | k
    · exact h5.1 k
    · exact h5.2.2.1 k
  · rcases k with k | k
    · exact h5.2.1 k
    · exact h5.2.2.2 k
  · have := (Fr.of_below (F := ArF sb so) h3).trans k3 (fun g _ k => k)
    exact this.below (fun g k => h4 g (.inr k)) (Nat.le_refl _)
  · rcases hg with hg | hg | hg
    · exact h4 g (.inl hg)
    · exact h4 g (.inr (.inl hg))
    · rcases hnew g hg with k | k
      · exact h4 g (.inr (.inr k))
      · exact Nat.le_trans h3.size k
  · rcases hnew _ e with k | k
    · exact h5.2.2.1 k
    · omega
  · rcases hnew _ e with k | k
    · exact h5.2.2.2 k
    · omega
  · have hpl := heap_lt (h6 p hp).1
    refine ⟨(k3.block hpl (fun k => (h6 p hp).2 (.inr k))).trans (h6 p hp).1, fun k => ?_⟩
    rcases k with k | k | k
    · exact (h6 p hp).2 (.inl k)
    · exact (h6 p hp).2 (.inr (.inl k))
    · rcases hnew _ k with k | k
      · exact (h6 p hp).2 (.inr (.inr k))
      · omega
theorem FI.fflt (h : FI w0 w qb qg sb so rq rs xq xs bs) {g : Nat} (k : FF qb qg sb so g) : g < w.heap.size := by
  rcases k with (k | k) | k | k
  · rw [k]; exact h.1.lt.1
  · rw [k]; exact h.1.lt.2
  · rw [k]; exact h.2.1.lt.1
  · exact (h.2.1.lt.2 g k).1
theorem FI.add (h : FI w0 w qb qg sb so rq rs xq xs bs) (ob : Obj) : FI w0 (w.alloc ob) qb qg sb so rq rs xq xs ((w.heap.size, ob) :: bs) := by
  have h2 := h.below ((Below.refl _ _).alloc (Nat.le_refl _) ob)
  refine ⟨h2.1, h2.2.1, h2.2.2.1, h2.2.2.2.1, h2.2.2.2.2.1, fun p hp => ?_⟩
  rcases List.mem_cons.1 hp with rfl | hp
  · exact ⟨heap_alloc_at _ _ _ rfl, fun k => Nat.lt_irrefl _ (h.fflt k)⟩
  · exact h2.2.2.2.2.2 p hp
theorem FI.keepNew {wa : World} {g : Nat} {ob : Obj} (h : FI w0 wa qb qg sb so rq rs xq xs bs) (hb : Below wa.heap.size wa w) (hg : w.heap[g]? = some ob) (h0 : wa.heap.size ≤ g) : FI w0 w qb qg sb so rq rs xq xs ((g, ob) :: bs) := by
  have h2 := h.below hb
  refine ⟨h2.1, h2.2.1, h2.2.2.1, h2.2.2.2.1, h2.2.2.2.2.1, fun p hp => ?_⟩
  rcases List.mem_cons.1 hp with rfl | hp
  · exact ⟨hg, fun k => by have := h.fflt k; omega⟩
  · exact h2.2.2.2.2.2 p hp
theorem FI.drop {bs' : List (Nat × Obj)} (h : FI w0 w qb qg sb so rq rs xq xs bs) (hb : ∀ p ∈ bs', p ∈ bs) : FI w0 w qb qg sb so rq rs xq xs bs' := ⟨h.1, h.2.1, h.2.2.1, h.2.2.2.1, h.2.2.2.2.1, fun p hp => h.2.2.2.2.2 p (hb p hp)⟩
theorem FI.new {w1 w2 : World} {e1 e2 : Ending} {n m : Int} (h1 : NewQ n w e1 w1) (h2 : NewS m w1 e2 w2) : ∃ qb qg sb, e1 = .returned (.pointer (some ⟨qb, 0, none⟩)) ∧ e2 = .returned (.pointer (some ⟨sb, 0, none⟩)) ∧ Hid (FI w w2 qb qg sb none (roomOf n) (roomOf m) [] [] []) := by
  obtain ⟨b, g, he, a1, a2, a3, a4⟩ := h1
  obtain ⟨he2, b1, b2⟩ := h2
  have hl := a1.lt
  refine ⟨b, g, w1.heap.size, he, he2, Lib.hid ⟨a1.below b2, b1, a4.trans (b2.mono a4.size), fun k hk => ?_, ⟨by omega, by omega, by simp, by simp⟩, (fun p hp => by cases hp)⟩⟩
  rcases hk with (k | k) | k | k
  · omega
  · omega
  · have := a4.size; omega
  · cases k
end
end Go.Proofs.Ytpbkclciipmonaa.F
namespace Go.Proofs.Ytpbkclciipmonaa.F
open Go.ChangeShapes Go.WideShapes Go.ChangeAt Go.RowKit Base
/-- The slice v holds xs, in a box; or there is none. -/
def LI (bs : List (Nat × Obj)) (v : Value) (xs : List Int) : Prop :=
  (xs = [] ∧ ∃ p c, v = .slice p 0 c ∧ (p = none → c = 0)) ∨ ∃ q ∈ bs, ∃ cur off c, q.2 = .cells cur 3 ∧ v = .slice (some ⟨q.1, off, none⟩) xs.length c ∧ xs.length ≤ c ∧ ∀ k, k < xs.length → cur[off + k]? = some (.int .i64 (xs.getD k 0))
theorem LI.nil (bs : List (Nat × Obj)) : LI bs (.slice none 0 0) [] := .inl ⟨rfl, none, 0, rfl, fun _ => rfl⟩
theorem LI.mono {bs bs' : List (Nat × Obj)} {v : Value} {xs : List Int} (h : LI bs v xs) (hm : ∀ p ∈ bs, p ∈ bs') : LI bs' v xs := by
  rcases h with h | ⟨q, hq, h⟩
  · exact .inl h
  · exact .inr ⟨q, hm q hq, h⟩
theorem LI.form {bs : List (Nat × Obj)} {v : Value} {xs : List Int} (h : LI bs v xs) : ∃ p c, v = .slice p xs.length c ∧ (p = none → c = 0) ∧ xs.length ≤ c := by
  rcases h with ⟨rfl, p, c, h, hp⟩ | ⟨q, hq, cur, off, c, _, h, hc, _⟩
  · exact ⟨p, c, h, hp, Nat.zero_le _⟩
  · exact ⟨_, c, h, (fun e => by cases e), hc⟩
theorem LI.cap0 {bs : List (Nat × Obj)} {v : Value} {xs : List Int} (h : LI bs v xs) : ∀ n c, v = .slice none n c → c = 0 := fun n c e => by
  obtain ⟨p, c', hv, hp, _⟩ := h.form
  rw [hv] at e
  injection e with e1 _ e3
  rw [← e3]
  exact hp e1
theorem LI.ints {bs : List (Nat × Obj)} {v : Value} {xs : List Int} {w : World} (h : LI bs v xs) (hw : ∀ p ∈ bs, w.heap[p.1]? = some p.2) (hl : xs.length ≤ 9223372036854775807) : Lst.Ints 0 w v xs := by
  rcases h with ⟨rfl, p, c, h, _⟩ | ⟨q, hq, cur, off, c, hq2, h, hc, hk⟩
  · exact .inl ⟨⟨p, c, h⟩, rfl⟩
  · refine .inr ⟨q.1, off, c, h, Nat.zero_le _, heap_lt (hw q hq), hl, fun k hk' => ?_⟩
    have h1 := hw q hq
    rw [hq2] at h1
    simp [World.cell?, h1, hk k hk']
/-- Its first, and a list of the others. -/
theorem LI.tail {bs : List (Nat × Obj)} {p : Option Addr} {n c : Nat} {x : Int} {xs : List Int} (h : LI bs (.slice p n c) (x :: xs)) (hl : xs.length + 1 ≤ 9223372036854775807) : ∃ g off, p = some ⟨g, off, none⟩ ∧ (∀ w : World, (∀ p ∈ bs, w.heap[p.1]? = some p.2) → g < w.heap.size ∧ w.cell? ⟨g, off, none⟩ = some (.int .i64 x)) ∧
    ∃ p' c', (∀ w, (Instr.sliceAt 29 (.slice p n c) (some (.int .i64 1)) none none).run Try.prog w = .ok (.slice p' xs.length c') w) ∧ LI bs (.slice p' xs.length c') xs := by
  rcases h with ⟨h, _⟩ | ⟨q, hq, cur, off, c', hq2, hv, hc, hk⟩
  · cases h
  · injection hv with e1 e2 e3
    subst e1 e2 e3
    rw [List.length_cons] at hc
    refine ⟨q.1, off, rfl, fun w hw => ⟨heap_lt (hw q hq), ?_⟩, ?_⟩
    · have h1 := hw q hq
      rw [hq2] at h1
      have := hk 0 (by simp)
      rw [Nat.add_zero] at this
      simp [World.cell?, h1, this]
    · have hrun : ∀ w, (Instr.sliceAt 29 (.slice (some ⟨q.1, off, none⟩) (x :: xs).length c) (some (.int .i64 ((1 : Nat) : Int))) none none).run Try.prog w = .ok (sliced (some ⟨q.1, off, none⟩) 1 (x :: xs).length c 1) w := fun w => by
        rw [run_sliceAt_slice _ _ _ _ _ _ Lst.elemInts, run_slice_l w _ _ _ _ Lst.elemInts _ _ (by simp) (by simp; omega), Lst.elemInts', Lst.sizeInt]; rfl
      by_cases h1 : c = 1
      · subst h1
        have h0 : xs = [] := List.length_eq_zero_iff.1 (by omega)
        subst h0
        refine ⟨some ⟨q.1, off, none⟩, 0, fun w => (hrun w).trans (by simp [sliced]), .inl ⟨rfl, _, _, rfl, fun e => by cases e⟩⟩
      · refine ⟨some ⟨q.1, off + 1, none⟩, c - 1, fun w => (hrun w).trans (by simp [sliced, h1, Addr.add]), .inr ⟨q, hq, cur, off + 1, c - 1, hq2, rfl, by omega, fun k hk' => ?_⟩⟩
        have := hk (k + 1) (by simpa using hk')
        rw [show off + 1 + k = off + (k + 1) by omega, this]
        simp
/-- A list that a call has made is kept. -/
theorem FI.list {w0 wa w : World} {qb qg sb : Nat} {so : Option Nat} {rq rs : Nat} {xq xs : List Int} {bs : List (Nat × Obj)} {v : Value} {l : List Int} (h : FI w0 wa qb qg sb so rq rs xq xs bs) (ho : Lst.OwnI wa.heap.size w v l) (hb : Below wa.heap.size wa w) :
    ∃ nb, Hid (FI w0 w qb qg sb so rq rs xq xs (nb ++ bs)) ∧ Hid (LI nb v l) := by
  rcases ho.2 with ⟨hv, h0⟩ | ⟨g, cap, cur, hv, hB, hg, hc, _, hsz, htk⟩
  · exact ⟨[], Lib.hid (h.below hb), Lib.hid (.inl ⟨List.length_eq_zero_iff.1 h0, none, 0, hv, fun _ => rfl⟩)⟩
  · refine ⟨[(g, .cells cur 3)], Lib.hid (h.keepNew hb hg hB), Lib.hid (.inr ⟨(g, .cells cur 3), List.mem_singleton.2 rfl, cur, 0, cap, rfl, hv, hc, fun k hk => ?_⟩)⟩
    have : (cur.toList.take (l.length * 1))[k]? = (l.map (Value.int .i64))[k]? := by rw [htk]
    rw [List.getElem?_take, if_pos (by omega), Array.getElem?_toList, List.getElem?_map, List.getElem?_eq_getElem hk] at this
    rw [Nat.zero_add, this, List.getD_eq_getElem?_getD, List.getElem?_eq_getElem hk]
    rfl
end Go.Proofs.Ytpbkclciipmonaa.F
