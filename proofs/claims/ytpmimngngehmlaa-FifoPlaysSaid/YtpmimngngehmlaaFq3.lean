/-
  Contracts of queues: Push. Not a statement of the seat.
-/
import Derived.Test.YtpmimngngehmlaaFq2
namespace Go.Proofs.Ytpmimngngehmlaa.F
open Go.ChangeShapes Go.WideShapes Go.ChangeAt Go.RowKit Base
/-- What becomes of a queue. -/
def QPost (b g room : Nat) (xs : List Int) (v : Value) (w : World) (e : Ending) (w' : World) : Prop := e = .returned v ∧ QAt w' b g room xs ∧ Fr (fun k => k = b ∨ k = g) w w'
theorem fqpush_full {w : World} {b g room : Nat} {xs : List Int} (h : QAt w b g room xs) (hf : xs.length = room) (x : Int) : Calls Try.prog 42 #[.pointer (some ⟨b, 0, none⟩), .int .i64 x] w fun e w' => e = .returned (.int .i64 2) ∧ ∃ n, w' = w.drewN n := by
  have HR := Lib.hid (fqroom h)
  rw [hf, Int.sub_self] at HR
  clear h hf
  go_enter Try.func42, Try.ntmps42
  go_wp2_with fail
  refine HR.out.mono ?_
  rintro e w1 ⟨rfl, n, rfl⟩
  go_wp2
  go_ret
  exact ⟨rfl, n, rfl⟩
theorem fqpush_nil (x : Int) (w : World) : Calls Try.prog 42 #[.pointer none, .int .i64 x] w fun e w' => e = .returned (.int .i64 2) ∧ ∃ n, w' = w.drewN n := by
  go_enter Try.func42, Try.ntmps42
  go_wp2_with fail
  refine (fqroom_nil _).mono ?_
  rintro e w1 ⟨rfl, n, rfl⟩
  go_wp2
  go_ret
  exact ⟨rfl, n, rfl⟩
set_option maxHeartbeats 1000000 in
set_option maxRecDepth 100000 in
theorem fqpush_ok {w : World} {b g room : Nat} {xs : List Int} (h : QAt w b g room xs) (hf : xs.length < room) (x : Int) : Calls Try.prog 42 #[.pointer (some ⟨b, 0, none⟩), .int .i64 x] w (QPost b g room (xs ++ [x]) (.int .i64 0) w) := by
  have HR := Lib.hid (fqroom h)
  obtain ⟨hr, hl, hbg, k, N, f, cur, hk, hN, hrN, hfN, h8, h9, h10⟩ := h
  have hp : 2 ^ k ≤ 2 ^ 16 := Nat.pow_le_pow_right (by omega) hk
  have HP : Hid (∀ X, Calls Try.prog 96 #[.pointer (some ⟨b, 0, none⟩), .int .i64 (xs.length : Int)] (w.drewN X) fun e w' => e = .returned (.int .i64 (((f + xs.length) % N : Nat) : Int)) ∧ w.drewN X = w') := Lib.hid fun X => fqplace (w := w.drewN X) (n := xs.length) (room := room) h8 hk hN hfN xs.length (by omega)
  have hpl : (f + xs.length) % N < N := Nat.mod_lt _ (by omega)
  have KEY : Hid (∀ q, QPost b g room (xs ++ [x]) (.int .i64 0) w (.returned (.int .i64 0)) (((w.setCell ⟨g, (f + xs.length) % N, none⟩ (.int .i64 x)).setCell ⟨b, 2, none⟩ (.int .i64 ((xs.length : Int) + 1))).drewN q)) := Lib.hid fun q => by
    have e9 : ((w.setCell ⟨g, (f + xs.length) % N, none⟩ (.int .i64 x)).setCell ⟨b, 2, none⟩ (.int .i64 ((xs.length : Int) + 1))).heap[g]? = some (.cells (cur.setIfInBounds ((f + xs.length) % N) (.int .i64 x)) 3) :=
      (Below.heap_setCell _ _ _ _ (fun e => hbg e.symm)).trans (heap_setCell_at h9)
    have e8 : ((w.setCell ⟨g, (f + xs.length) % N, none⟩ (.int .i64 x)).setCell ⟨b, 2, none⟩ (.int .i64 ((xs.length : Int) + 1))).heap[b]? = some (boxQ g N f (xs ++ [x]).length room) := by
      have h8' : (w.setCell ⟨g, (f + xs.length) % N, none⟩ (.int .i64 x)).heap[b]? = some (boxQ g N f xs.length room) := (Below.heap_setCell _ _ _ _ hbg).trans h8
      rw [boxQ] at h8'
      rw [heap_setCell_at h8', List.length_append, List.length_singleton, boxQ]
      simp
    refine ⟨rfl, ⟨hr, by rw [List.length_append, List.length_singleton]; omega, hbg, k, N, f, _, hk, hN, hrN, hfN, e8, e9, h10.push (by omega) x⟩, ?_⟩
    exact (((Fr.refl _ w).setCell (.inr rfl) _ _).setCell (.inl rfl) _ _).drewN q
  obtain ⟨hb, c0, c1, c2, c3⟩ := cellsQ h8
  obtain ⟨f1, f2⟩ := frozQ h8
  have hgs := heap_lt h9
  have cg : ∃ z, w.cell? ⟨g, (f + xs.length) % N, none⟩ = some z := by
    have hs := h10.1
    refine ⟨cur[(f + xs.length) % N]'(by omega), by simp [World.cell?, h9]⟩
  have fg : w.frozen? ⟨g, (f + xs.length) % N, none⟩ = false := by simp [World.frozen?, h9]
  obtain ⟨z, cg⟩ := cg
  have hne : ((room : Int) - (xs.length : Int) == 0) = false := by rw [beq_eq_false_iff_ne]; omega
  have hl6 : (xs.length : Int) ≤ 65536 := by omega
  generalize QPost b g room (xs ++ [x]) (.int .i64 0) w = Post at KEY ⊢
  generalize (f + xs.length) % N = p at KEY HP hpl cg fg
  generalize xs.length = n at *
  clear h8 h9 h10 hN hf hl
  go_enter Try.func42, Try.ntmps42
  go_wp2_with fail
  refine HR.out.mono ?_
  rintro e w1 ⟨rfl, nq, rfl⟩
  go_wp2_with fail
  go_region_held3 (fun w' => w'.cell? ⟨b, 0, none⟩ = some (.slice (some ⟨g, 0, none⟩) N N) ∧ w'.cell? ⟨b, 2, none⟩ = some (.int .i64 n))
    (first | (simp [*]; done) | (refine ⟨?_, ?_⟩ <;> first | (simp [*]; done) | ((try dsimp only); refine (World.cell?_setCell_other _ _ _ _ (by simp)).trans ?_; simp [*]; done)))
    (first | (go_at_call 96; refine (HP.out _).mono ?_; rintro e wx ⟨rfl, rfl⟩))
  go_wp2
  exact KEY.out _
end Go.Proofs.Ytpmimngngehmlaa.F
