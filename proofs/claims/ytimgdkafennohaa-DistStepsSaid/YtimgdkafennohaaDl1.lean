/-
  Lists of numbers in at most one block: where one stands. Not a statement of the seat.
-/
import Derived.Test.YtimgdkafennohaaHead7
import Derived.Test.YtimgdkafennohaaHead9
import Derived.Deep.DeepHandedRow
import Derived.Deep.RegionHeld3
namespace Go.Proofs.Ytimgdkafennohaa.Dl
open Go.ChangeShapes Go.WideShapes Go.ChangeAt Go.RowKit Base Ro
def valsU (xs : List Nat) : List Value := xs.map fun (x : Nat) => .int .u64 (x : Int)
theorem valsU_len (xs : List Nat) : (valsU xs).length = xs.length := by simp [valsU]
/-- What holds a list's numbers: no block, or one. -/
def LsAt (w : World) (B : Nat) (V : Value) (xs : List Nat) : Prop :=
  (xs = [] ∧ w.ownsRow B 78 1 V 0 []) ∨
  (xs ≠ [] ∧ ∃ g cap, w.ownsRow B 78 1 V 1 [.slice (some ⟨g, 0, none⟩) xs.length cap] ∧ w.ownsRow B 56 1 (.slice (some ⟨g, 0, none⟩) xs.length cap) xs.length (valsU xs))
/-- Numbers that rise, of 64 bits, few of them. -/
def GoodX (xs : List Nat) : Prop := Up xs ∧ xs.length < 500 ∧ ∀ x ∈ xs, x < 18446744073709551616
theorem cells_of {w : World} {B g n cap : Nat} {e : TypeId} {vs : List Value} (h : w.ownsRow B e 1 (.slice (some ⟨g, 0, none⟩) n cap) n vs) (hn : vs.length = n) (k : Nat) (hk : k < n) : w.cell? ⟨g, k, none⟩ = vs[k]? := by
  have h1 := h.cells (g := g) rfl k (vs[k]'(by omega)) (List.getElem?_eq_getElem (by omega))
  rw [add_plain, Nat.zero_add] at h1
  rw [h1, List.getElem?_eq_getElem (by omega)]
theorem num_cell {w : World} {B g cap : Nat} {xs : List Nat} (h : w.ownsRow B 56 1 (.slice (some ⟨g, 0, none⟩) xs.length cap) xs.length (valsU xs)) (k : Nat) (hk : k < xs.length) : w.cell? ⟨g, k, none⟩ = some (.int .u64 (xs.getD k 0 : Nat)) := by
  rw [cells_of h (valsU_len xs) k hk]
  simp [valsU, List.getD_eq_getElem?_getD, hk]
theorem last_u (g n c : Nat) (z : Int) (w : World) (hn : 0 < n) (hn2 : n ≤ 1000000) (hc : w.cell? ⟨g, n - 1, none⟩ = some (.int .u64 z)) : Calls Try.prog 49 #[.slice (some ⟨g, 0, none⟩) n c] w fun e w' => e = .returned (.int .u64 z) ∧ w' = w := by
  obtain ⟨m, rfl⟩ : ∃ m, n = m + 1 := ⟨n - 1, by omega⟩
  rw [Nat.add_sub_cancel] at hc
  have hw : IntKind.i64.wrap ((m : Int) + 1 - 1) = (m : Int) := by rw [IntKind.wrap_i64]; omega
  have h0 : (0 : Int) ≤ (m : Int) := by omega
  have h1 : (m : Int) < (m : Int) + 1 := by omega
  go_enter Try.func49, Try.ntmps49
  go_wp2
  go_ret
  exact ⟨rfl, rfl⟩
/-- What the search's test tells, of the one block. -/
theorem seek1_any (b b1 b2 G C g n cap : Nat) (x z : Int) (X : World) (hn : 0 < n) (hn2 : n ≤ 1000000) (h1 : X.cell? ⟨b1, 0, none⟩ = some (.pointer (some ⟨b, 0, none⟩))) (h2 : X.cell? ⟨b2, 0, none⟩ = some (.int .u64 x)) (h3 : X.cell? ⟨b, 0, none⟩ = some (.slice (some ⟨G, 0, none⟩) 1 C)) (h4 : X.cell? ⟨G, 0, none⟩ = some (.slice (some ⟨g, 0, none⟩) n cap)) (h5 : X.cell? ⟨g, n - 1, none⟩ = some (.int .u64 z)) :
    Calls Try.prog 48 (#[.int .i64 ((0 : Nat) : Int)] ++ #[.pointer (some ⟨b1, 0, none⟩), .pointer (some ⟨b2, 0, none⟩)]) X fun e w' => e = .returned (.bool (decide (x ≤ z))) ∧ ∃ k', w' = X.drewN k' := by
  have HL := Lib.hid (last_u g n cap z X.drew hn hn2 h5)
  have HK : Hid (X.cell? ⟨b1, 0, none⟩ = some (.pointer (some ⟨b, 0, none⟩)) ∧ X.cell? ⟨b2, 0, none⟩ = some (.int .u64 x) ∧ X.cell? ⟨b, 0, none⟩ = some (.slice (some ⟨G, 0, none⟩) 1 C) ∧ X.cell? ⟨G, 0, none⟩ = some (.slice (some ⟨g, 0, none⟩) n cap)) := Lib.hid ⟨h1, h2, h3, h4⟩
  clear h5
  show Calls _ _ #[.int .i64 0, .pointer (some ⟨b1, 0, none⟩), .pointer (some ⟨b2, 0, none⟩)] _ _
  go_enter Try.func48, Try.ntmps48
  go_wp2_with fail
  go_region_held3 (fun Y => Y.cell? ⟨b1, 0, none⟩ = some (.pointer (some ⟨b, 0, none⟩)) ∧ Y.cell? ⟨b2, 0, none⟩ = some (.int .u64 x) ∧ Y.cell? ⟨b, 0, none⟩ = some (.slice (some ⟨G, 0, none⟩) 1 C) ∧ Y.cell? ⟨G, 0, none⟩ = some (.slice (some ⟨g, 0, none⟩) n cap)) (first | assumption | exact HK.out)
    ((first
      | (go_at_call 49; ((with_reducible refine HL.out.mono ?_); rintro e x ⟨rfl, rfl⟩))))
  all_goals go_wp2
  all_goals go_ret
  all_goals exact ⟨rfl, 1, rfl⟩
/-- Where a number stands, or would. -/
def posU : List Nat → Nat → Nat
  | [], _ => 0
  | y :: l, x => if y < x then posU l x + 1 else 0
theorem posU_le : ∀ (l : List Nat) (x : Nat), posU l x ≤ l.length
  | [], _ => Nat.le_refl _
  | y :: l, x => by
    unfold posU
    split
    · have := posU_le l x; simp; omega
    · exact Nat.zero_le _
theorem posU_lt : ∀ (l : List Nat) (x j : Nat), j < posU l x → l.getD j 0 < x
  | [], _, _, h => absurd h (Nat.not_lt_zero _)
  | y :: l, x, j, h => by
    unfold posU at h
    by_cases hy : y < x
    · rw [if_pos hy] at h
      cases j with
      | zero => simpa using hy
      | succ j => simpa using posU_lt l x j (by omega)
    · rw [if_neg hy] at h; exact absurd h (Nat.not_lt_zero _)
theorem posU_ge : ∀ (l : List Nat) (x : Nat), posU l x < l.length → x ≤ l.getD (posU l x) 0
  | [], _, h => absurd h (Nat.not_lt_zero _)
  | y :: l, x, h => by
    unfold posU at h ⊢
    by_cases hy : y < x
    · rw [if_pos hy] at h ⊢
      simpa using posU_ge l x (by simpa using h)
    · rw [if_neg hy]; simpa using hy
theorem posU_fst {l : List Nat} (hu : Up l) (x : Nat) : Fst (geP l x) l.length (posU l x) := by
  refine ⟨posU_le l x, fun j hj => ?_, fun j hj hl => ?_⟩
  · have := posU_lt l x j hj
    unfold geP; rw [decide_eq_false_iff_not]; omega
  · have h1 := posU_ge l x (by omega)
    unfold geP; rw [decide_eq_true_eq]
    rcases Nat.lt_or_eq_of_le hj with h2 | h2
    · have := hu _ _ h2 hl; omega
    · rw [← h2]; exact h1
/-- What seek tells. -/
def seekV (xs : List Nat) (x : Nat) : Int × Int × Bool :=
  if xs = [] then (0, 0, false) else if xs.getD (xs.length - 1) 0 < x then (1, 0, false) else (0, (posU xs x : Int), decide (posU xs x < xs.length ∧ xs.getD (posU xs x) 0 = x))
def SeekP (xs : List Nat) (x : Nat) (w : World) (e : Ending) (w' : World) : Prop := e = .returned (.tuple #[.int .i64 (seekV xs x).1, .int .i64 (seekV xs x).2.1, .bool (seekV xs x).2.2]) ∧ Below w.heap.size w w'
theorem LsAt.below {w w' : World} {B : Nat} {V : Value} {xs : List Nat} (h : LsAt w B V xs) (hb : Below w.heap.size w w') : LsAt w' B V xs := by
  have key : ∀ (e : TypeId) (v : Value) (n : Nat) (vs : List Value), w.ownsRow B e 1 v n vs → w'.ownsRow B e 1 v n vs := fun e v n vs h => by
    refine ⟨h.1, ?_⟩
    rcases h.2 with h2 | ⟨g, cap, cur, h1, h2, h3, h4⟩
    · exact .inl h2
    · exact .inr ⟨g, cap, cur, h1, h2, (hb.block g (heap_lt h3)).trans h3, h4⟩
  rcases h with ⟨h1, h2⟩ | ⟨h1, g, cap, h2, h3⟩
  · exact .inl ⟨h1, key _ _ _ _ h2⟩
  · exact .inr ⟨h1, g, cap, key _ _ _ _ h2, key _ _ _ _ h3⟩
theorem LsAt.form {w : World} {B : Nat} {V : Value} {xs : List Nat} (h : LsAt w B V xs) : ∃ p c, V = .slice p (if xs = [] then 0 else 1) c := by
  rcases h with ⟨h1, h2⟩ | ⟨h1, g, cap, h2, h3⟩
  · rw [if_pos h1]
    rcases h2.2 with ⟨rfl, _⟩ | ⟨g, c, cur, rfl, _⟩
    · exact ⟨_, _, rfl⟩
    · exact ⟨_, _, rfl⟩
  · rw [if_neg h1]
    rcases h2.2 with ⟨_, h4⟩ | ⟨g, c, cur, rfl, _⟩
    · omega
    · exact ⟨_, _, rfl⟩
set_option maxHeartbeats 2000000 in
set_option maxRecDepth 100000 in
theorem seek_any {B b : Nat} {V : Value} {xs : List Nat} (x : Nat) (w : World) (h : LsAt w B V xs) (hg : GoodX xs) (hc : w.cell? ⟨b, 0, none⟩ = some V) (hbw : b < w.heap.size) : Calls Try.prog 30 #[.pointer (some ⟨b, 0, none⟩), .int .u64 (x : Int)] w (SeekP xs x w) := by
  unfold SeekP seekV
  rcases h with ⟨rfl, ho⟩ | ⟨hne, g, cap, ho, hr⟩
  · rw [if_pos rfl]
    have HS := Lib.hid (fun X : World => search_any 48 #[.pointer (some ⟨w.heap.size, 0, none⟩), .pointer (some ⟨w.heap.size + 1, 0, none⟩)] (fun _ => false) 0 0 (by omega) (enters_of Try.func48 (by kernel_rfl) rfl) X (fun i j _ hj => absurd hj (Nat.not_lt_zero _)) ⟨Nat.le_refl _, fun j hj => absurd hj (Nat.not_lt_zero _), fun j _ hj => absurd hj (Nat.not_lt_zero _)⟩ (fun k j hj => absurd hj (Nat.not_lt_zero _)))
    obtain ⟨p, c, rfl⟩ : ∃ p c, V = .slice p 0 c := by
      rcases ho.2 with ⟨rfl, _⟩ | ⟨g, c, cur, rfl, _⟩
      · exact ⟨_, _, rfl⟩
      · exact ⟨_, _, rfl⟩
    clear ho hg
    dsimp only
    go_enter Try.func30, Try.ntmps30
    go_wp2_with fail
    refine (HS.out _).mono ?_
    rintro e w' ⟨rfl, k, rfl⟩
    go_wp2
    exact bodyPost_ret (results_tmp3 Try.results30 _ _ _) rfl ⟨rfl, below_drewN (by go_grown) _⟩
  · rw [if_neg hne]
    have hx0 : 0 < xs.length := List.length_pos_iff.2 hne
    have hl5 := hg.2.1
    have hnum := num_cell hr
    obtain ⟨G, C, rfl, hGc, hGw⟩ : ∃ G C, V = .slice (some ⟨G, 0, none⟩) 1 C ∧ w.cell? ⟨G, 0, none⟩ = some (.slice (some ⟨g, 0, none⟩) xs.length cap) ∧ G < w.heap.size := by
      rcases ho.2 with ⟨_, h4⟩ | ⟨G, C, cur, rfl, _, h3, _⟩
      · omega
      · exact ⟨G, C, rfl, by have := cells_of ho rfl 0 (by omega); simpa using this, heap_lt h3⟩
    have hgw : g < w.heap.size := by
      rcases hr.2 with ⟨h4, _⟩ | ⟨g', C', cur, h4, _, h3, _⟩
      · cases h4
      · injection h4 with h4; injection h4 with h4; injection h4 with h4; subst h4; exact heap_lt h3
    obtain ⟨X, hX⟩ : ∃ X, X = (w.alloc (.cells #[.pointer (some ⟨b, 0, none⟩)] 75)).alloc (.cells #[.int .u64 (x : Int)] 56) := ⟨_, rfl⟩
    have hbX : Below w.heap.size w X := by rw [hX]; exact ((Below.refl _ _).alloc (Nat.le_refl _) _).alloc (by simp) _
    have c1 : X.cell? ⟨w.heap.size, 0, none⟩ = some (.pointer (some ⟨b, 0, none⟩)) := by
      have : X.heap[w.heap.size]? = some (.cells #[.pointer (some ⟨b, 0, none⟩)] 75) := by rw [hX]; exact heap_alloc_lt _ _ _ _ (heap_alloc_at _ _ _ rfl)
      simp [World.cell?, this]
    have c2 : X.cell? ⟨w.heap.size + 1, 0, none⟩ = some (.int .u64 (x : Int)) := by
      have : X.heap[w.heap.size + 1]? = some (.cells #[.int .u64 (x : Int)] 56) := by rw [hX]; exact heap_alloc_at _ _ _ (by simp)
      simp [World.cell?, this]
    have c3 := (hbX.cell (p := ⟨b, 0, none⟩) hbw).trans hc
    have c4 := (hbX.cell (p := ⟨G, 0, none⟩) hGw).trans hGc
    have c5 : ∀ k, k < xs.length → X.cell? ⟨g, k, none⟩ = some (.int .u64 (xs.getD k 0 : Nat)) := fun k hk => (hbX.cell (p := ⟨g, k, none⟩) hgw).trans (hnum k hk)
    obtain ⟨z, hz⟩ : ∃ z, z = xs.getD (xs.length - 1) 0 := ⟨_, rfl⟩
    have hz5 := c5 (xs.length - 1) (by omega)
    rw [← hz] at hz5 ⊢
    have HS : Hid (Calls Try.prog 47 #[.int .i64 ((1 : Nat) : Int), .func (.func 48) #[] #[.pointer (some ⟨w.heap.size, 0, none⟩), .pointer (some ⟨w.heap.size + 1, 0, none⟩)]] X (IntDrew (((if z < x then 1 else 0) : Nat) : Int) X)) := Lib.hid (by
      refine search_any _ _ (fun _ => decide ((x : Int) ≤ (z : Int))) 1 _ (by omega) (enters_of Try.func48 (by kernel_rfl) rfl) X (fun _ _ _ _ h => h) ?_ (fun k j hj => ?_)
      · by_cases hzx : z < x
        · rw [if_pos hzx]
          exact ⟨Nat.le_refl _, fun j _ => decide_eq_false (by omega), fun j h1 h2 => by omega⟩
        · rw [if_neg hzx]
          exact ⟨Nat.zero_le _, fun j h1 => absurd h1 (Nat.not_lt_zero _), fun j _ _ => decide_eq_true (by omega)⟩
      · obtain rfl : j = 0 := by omega
        refine (seek1_any b w.heap.size (w.heap.size + 1) G C g xs.length cap (x : Int) (z : Int) (X.drewN k) hx0 (by omega) c1 c2 c3 c4 hz5).mono ?_
        rintro e w' ⟨he, k', rfl⟩
        exact ⟨he, k + k', by simp⟩)
    have HBX := Lib.hid hbX
    have HKC : Hid (X.cell? ⟨w.heap.size, 0, none⟩ = some (.pointer (some ⟨b, 0, none⟩)) ∧ X.cell? ⟨w.heap.size + 1, 0, none⟩ = some (.int .u64 (x : Int)) ∧ X.cell? ⟨b, 0, none⟩ = some (.slice (some ⟨G, 0, none⟩) 1 C) ∧ X.cell? ⟨G, 0, none⟩ = some (.slice (some ⟨g, 0, none⟩) xs.length cap)) := Lib.hid ⟨c1, c2, c3, c4⟩
    have HBS : Hid (∀ Y : World, Y.heap = X.heap → Calls Try.prog 50 #[.slice (some ⟨g, 0, none⟩) xs.length cap, .int .u64 (x : Int)] Y fun e w' => e = .returned (.tuple #[.int .i64 (posU xs x : Int), .bool (decide (posU xs x < xs.length ∧ xs.getD (posU xs x) 0 = x))]) ∧ w' = Y) := Lib.hid fun Y hY =>
      bsearch_u g 0 cap xs x (posU xs x) Y (by omega) (fun k hk => by rw [Nat.zero_add]; simp only [World.cell?, hY]; exact c5 k hk) hg.1 (posU_fst hg.1 x)
    have hXw := hX
    clear hz5 c5 hnum hr ho hGc hg hz hgw
    by_cases hzx : z < x
    · rw [if_pos hzx] at HS ⊢
      clear hzx c1 c2 c3 c4 HBS
      dsimp only
      go_enter Try.func30, Try.ntmps30
      go_wp2_with fail
      rw [← hX]
      refine (HS.out).mono ?_
      rintro e w' ⟨rfl, k, rfl⟩
      obtain ⟨c1, c2, c3, c4⟩ := HKC.out
      clear hX hXw
      go_wp2
      exact bodyPost_ret (results_tmp3 Try.results30 _ _ _) rfl ⟨rfl, below_drewN HBX.out _⟩
    · rw [if_neg hzx] at HS ⊢
      clear hzx c1 c2 c3 c4
      dsimp only
      generalize decide (posU xs x < xs.length ∧ xs.getD (posU xs x) 0 = x) = res at HBS ⊢
      generalize posU xs x = r at HBS ⊢
      go_enter Try.func30, Try.ntmps30
      go_wp2_with fail
      rw [← hX]
      refine (HS.out).mono ?_
      rintro e w' ⟨rfl, k, rfl⟩
      obtain ⟨c1, c2, c3, c4⟩ := HKC.out
      clear hX hXw
      go_wp2_with fail
      go_region_held3 (fun Y => Y.heap = X.heap ∧ Y.cell? ⟨w.heap.size, 0, none⟩ = some (.pointer (some ⟨b, 0, none⟩)) ∧ Y.cell? ⟨w.heap.size + 1, 0, none⟩ = some (.int .u64 (x : Int)) ∧ Y.cell? ⟨b, 0, none⟩ = some (.slice (some ⟨G, 0, none⟩) 1 C) ∧ Y.cell? ⟨G, 0, none⟩ = some (.slice (some ⟨g, 0, none⟩) xs.length cap)) (first | assumption | exact ⟨rfl, HKC.out⟩)
        ((first
          | (go_at_call 50; ((with_reducible refine (HBS.out (X.drewN (k + 1)) rfl).mono ?_); rintro e x ⟨rfl, rfl⟩))))
      all_goals go_wp2
      all_goals exact bodyPost_ret (results_tmp3 Try.results30 _ _ _) rfl ⟨rfl, below_drewN HBX.out _⟩
end Go.Proofs.Ytimgdkafennohaa.Dl
