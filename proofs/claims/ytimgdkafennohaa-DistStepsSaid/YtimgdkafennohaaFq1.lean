/-
  Contracts of queues: New, Len, Room, place, First. Not a statement of the seat.
-/
import Derived.Test.YtimgdkafennohaaFqMath
import Derived.Test.YtimgdkafennohaaShelf
import Derived.Test.YtimgdkafennohaaLst
import Derived.Test.YtimgdkafennohaaHead4
import Derived.Deep.QuietTactic
import Derived.RegionTactic
import Derived.BigRegion
import Derived.OwnWalk
import Derived.Laws.OwnMore
namespace Go.Proofs.Ytimgdkafennohaa.F
open Go.ChangeShapes Go.WideShapes Go.ChangeAt Go.RowKit Base
/-- A queue's block. -/
def boxQ (g N f n room : Nat) : Obj := .cells #[.slice (some ⟨g, 0, none⟩) N N, .int .i64 (f : Int), .int .i64 (n : Int), .int .i64 (room : Int)] 92
/-- Block b is a queue of that room with xs, whose ring is block g. -/
def QAt (w : World) (b g room : Nat) (xs : List Int) : Prop :=
  room ≤ 65536 ∧ xs.length ≤ room ∧ b ≠ g ∧ ∃ k N f cur, k ≤ 16 ∧ N = 2 ^ k ∧ room ≤ N ∧ f < N ∧ w.heap[b]? = some (boxQ g N f xs.length room) ∧ w.heap[g]? = some (.cells cur 3) ∧ Ring cur N f xs
theorem QAt.fr {w w' : World} {F : Nat → Prop} {b g room : Nat} {xs : List Int} (h : QAt w b g room xs) (hf : Fr F w w') (hb : ¬ F b) (hg : ¬ F g) : QAt w' b g room xs := by
  obtain ⟨h1, h2, h3, k, N, f, cur, h4, h5, h6, h7, h8, h9, h10⟩ := h
  exact ⟨h1, h2, h3, k, N, f, cur, h4, h5, h6, h7, (hf.block (heap_lt h8) hb).trans h8, (hf.block (heap_lt h9) hg).trans h9, h10⟩
theorem QAt.below {w w' : World} {b g room : Nat} {xs : List Int} (h : QAt w b g room xs) (hb : Below w.heap.size w w') : QAt w' b g room xs :=
  h.fr (Fr.of_below (F := fun _ => False) hb) (fun e => e) (fun e => e)
theorem QAt.lt {w : World} {b g room : Nat} {xs : List Int} (h : QAt w b g room xs) : b < w.heap.size ∧ g < w.heap.size := by
  obtain ⟨_, _, _, k, N, f, cur, _, _, _, _, h8, h9, _⟩ := h
  exact ⟨heap_lt h8, heap_lt h9⟩
theorem cellsQ {w : World} {b g N f n room : Nat} (h : w.heap[b]? = some (boxQ g N f n room)) : b < w.heap.size ∧ w.cell? ⟨b, 0, none⟩ = some (.slice (some ⟨g, 0, none⟩) N N) ∧ w.cell? ⟨b, 1, none⟩ = some (.int .i64 (f : Int)) ∧ w.cell? ⟨b, 2, none⟩ = some (.int .i64 (n : Int)) ∧ w.cell? ⟨b, 3, none⟩ = some (.int .i64 (room : Int)) := by
  refine ⟨heap_lt h, ?_⟩
  unfold boxQ at h
  simp [World.cell?, h]
theorem frozQ {w : World} {b g N f n room : Nat} (h : w.heap[b]? = some (boxQ g N f n room)) : w.frozen? ⟨b, 1, none⟩ = false ∧ w.frozen? ⟨b, 2, none⟩ = false := by
  unfold boxQ at h
  simp [World.frozen?, h]
theorem fbounded (n : Int) (w : World) : Calls Try.prog 39 #[.int .i64 n] w fun e w' => e = .returned (.int .i64 ((roomOf n : Nat) : Int)) ∧ w = w' := by
  rw [roomOf_eq]
  go_enter Try.func39, Try.ntmps39
  go_wp2
  go_ret
  exact ⟨rfl, rfl⟩
theorem fqlen {w : World} {b g room : Nat} {xs : List Int} (h : QAt w b g room xs) : Calls Try.prog 61 #[.pointer (some ⟨b, 0, none⟩)] w fun e w' => e = .returned (.int .i64 (xs.length : Int)) ∧ w = w' := by
  obtain ⟨_, _, _, k, N, f, cur, _, _, _, _, h8, _⟩ := h
  obtain ⟨hb, c0, c1, c2, c3⟩ := cellsQ h8
  clear h8
  go_enter Try.func61, Try.ntmps61
  go_wp2
  go_ret
  exact ⟨rfl, rfl⟩
theorem fqlen_nil (w : World) : Calls Try.prog 61 #[.pointer none] w fun e w' => e = .returned (.int .i64 0) ∧ w = w' := by
  go_enter Try.func61, Try.ntmps61
  go_wp2
  go_ret
  exact ⟨rfl, rfl⟩
theorem fqroom {w : World} {b g room : Nat} {xs : List Int} (h : QAt w b g room xs) : Calls Try.prog 60 #[.pointer (some ⟨b, 0, none⟩)] w (IntDrew ((room : Int) - (xs.length : Int)) w) := by
  obtain ⟨hr, hl, _, k, N, f, cur, _, _, _, _, h8, _⟩ := h
  obtain ⟨hb, c0, c1, c2, c3⟩ := cellsQ h8
  have e1 : IntKind.i64.wrap ((room : Int) - (xs.length : Int)) = (room : Int) - (xs.length : Int) := by rw [IntKind.wrap_i64]; omega
  clear h8
  go_enter Try.func60, Try.ntmps60
  go_wp2
  go_quiet (fail)
  go_wp2
  go_ret
  exact ⟨rfl, _, rfl⟩
theorem fqroom_nil (w : World) : Calls Try.prog 60 #[.pointer none] w (IntDrew 0 w) := by
  go_enter Try.func60, Try.ntmps60
  go_wp2
  go_ret
  exact ⟨rfl, 0, rfl⟩
theorem fqplace {w : World} {b g N f n room k : Nat} (h : w.heap[b]? = some (boxQ g N f n room)) (hk : k ≤ 16) (hN : N = 2 ^ k) (hf : f < N) (i : Nat) (hi : i ≤ 65536) : Calls Try.prog 43 #[.pointer (some ⟨b, 0, none⟩), .int .i64 (i : Int)] w fun e w' => e = .returned (.int .i64 (((f + i) % N : Nat) : Int)) ∧ w = w' := by
  obtain ⟨hb, c0, c1, c2, c3⟩ := cellsQ h
  have hp : 2 ^ k ≤ 2 ^ 16 := Nat.pow_le_pow_right (by omega) hk
  rw [← hN] at hp
  have e1 : bits .and .i64 ((f : Int) + (i : Int)) ((N : Int) - 1) = (((f + i) % N : Nat) : Int) := by
    rw [← i64_mask (f + i) N k (by omega) (by omega) hN, Int.natCast_add]
  clear h hN
  generalize ((f + i) % N : Nat) = r at e1 ⊢
  go_enter Try.func43, Try.ntmps43
  go_wp2
  go_ret
  exact ⟨rfl, rfl⟩
/-- What First and Pop tell. -/
def fstV (xs : List Int) : Value := .tuple #[.int .i64 (xs.headD 0), .bool (!xs.isEmpty)]
theorem fqfirst {w : World} {b g room : Nat} {xs : List Int} (h : QAt w b g room xs) : Calls Try.prog 42 #[.pointer (some ⟨b, 0, none⟩)] w fun e w' => e = .returned (fstV xs) ∧ ∃ n, w' = w.drewN n := by
  have HL := Lib.hid (fqlen h)
  obtain ⟨hr, hl, _, k, N, f, cur, hk, hN, _, hf, h8, h9, h10⟩ := h
  obtain ⟨hb, c0, c1, c2, c3⟩ := cellsQ h8
  cases xs with
  | nil =>
    clear h8 h9 h10 hN
    go_enter Try.func42, Try.ntmps42
    go_wp2_with fail
    refine HL.out.mono ?_
    rintro e w1 ⟨rfl, rfl⟩
    go_wp2
    go_ret2
    exact ⟨rfl, 0, rfl⟩
  | cons x xs =>
    have hne : (((x :: xs).length : Int) == 0) = false := by rw [beq_eq_false_iff_ne]; simp; omega
    have cx : w.cell? ⟨g, f, none⟩ = some (.int .i64 x) := by
      have := h10.first hf
      simp [World.cell?, h9, this]
    have hgl := heap_lt h9
    obtain ⟨m, hm⟩ : ∃ m, m = (x :: xs).length := ⟨_, rfl⟩
    rw [← hm] at HL hne c2 hl
    unfold fstV
    simp only [List.headD_cons, List.isEmpty_cons, Bool.not_false]
    clear h8 h9 h10 hN hm
    go_enter Try.func42, Try.ntmps42
    go_wp2_with fail
    refine HL.out.mono ?_
    rintro e w1 ⟨rfl, rfl⟩
    go_wp2
    go_quiet (fail)
    go_wp2
    go_ret2
    exact ⟨rfl, _, rfl⟩
theorem fqfirst_nil (w : World) : Calls Try.prog 42 #[.pointer none] w fun e w' => e = .returned (fstV []) ∧ w = w' := by
  go_enter Try.func42, Try.ntmps42
  go_wp2_with fail
  refine (fqlen_nil _).mono ?_
  rintro e w1 ⟨rfl, rfl⟩
  go_wp2
  go_ret2
  exact ⟨rfl, rfl⟩
end Go.Proofs.Ytimgdkafennohaa.F
