/-
  Contracts of small functions, several texts laid into one. Not a statement of the seat.
-/
import Derived.Test.YtpgfkggfgkafjaaHead1
import Derived.Deep.Cut
import Derived.Deep.CutRange
import Derived.Deep.DeepCutAuto
import Derived.Shelf.Abstract
import Derived.WalkKit
namespace Go.Proofs.Ytpgfkggfgkafjaa.Ro
open Go.ChangeShapes Go.WideShapes Go.ChangeAt Go.RowKit Base
/-- Up to r a test fails, from r on it holds. -/
def Fst (p : Nat → Bool) (n r : Nat) : Prop := r ≤ n ∧ (∀ j, j < r → p j = false) ∧ ∀ j, r ≤ j → j < n → p j = true
theorem Fst.is {p : Nat → Bool} {n r r' : Nat} (h : Fst p n r) (h' : Fst p n r') : r = r' := by
  rcases Nat.lt_trichotomy r r' with h1 | h1 | h1
  · have a := h'.2.1 r h1
    rw [h.2.2 r (Nat.le_refl _) (Nat.lt_of_lt_of_le h1 h'.1)] at a
    cases a
  · exact h1
  · have a := h.2.1 r' h1
    rw [h'.2.2 r' (Nat.le_refl _) (Nat.lt_of_lt_of_le h1 h.1)] at a
    cases a
/-- A search under way. -/
def Mid (p : Nat → Bool) (n lo hi : Nat) : Prop := lo ≤ hi ∧ hi ≤ n ∧ (∀ j, j < lo → p j = false) ∧ ∀ j, hi ≤ j → j < n → p j = true
theorem Mid.up {p : Nat → Bool} {n lo hi m : Nat} (h : Mid p n lo hi) (hmo : ∀ i j, i ≤ j → j < n → p i = true → p j = true) (hm : m < hi) (hp : p m = false) : Mid p n (m + 1) hi := by
  refine ⟨hm, h.2.1, fun j hj => ?_, h.2.2.2⟩
  cases hq : p j with
  | false => rfl
  | true =>
    have := hmo j m (by omega) (Nat.lt_of_lt_of_le hm h.2.1) hq
    rw [hp] at this; cases this
theorem Mid.down {p : Nat → Bool} {n lo hi m : Nat} (h : Mid p n lo hi) (hmo : ∀ i j, i ≤ j → j < n → p i = true → p j = true) (hl : lo ≤ m) (hm : m < hi) (hp : p m = true) : Mid p n lo m :=
  ⟨hl, Nat.le_of_lt (Nat.lt_of_lt_of_le hm h.2.1), h.2.2.1, fun j hj hn => hmo m j hj hn hp⟩
def IntDrew (x : Int) (w : World) (e : Ending) (w' : World) : Prop := e = .returned (.int .i64 x) ∧ ∃ k, w' = w.drewN k
set_option maxRecDepth 100000 in
set_option maxHeartbeats 4000000 in
theorem search_any (F : Nat) (lb : Array Value) (p : Nat → Bool) (n r : Nat) (hn : n ≤ 100000000) (eg : ∀ args w, (callFunc F args).run Try.prog w = .ok (.enter F args) w) (w : World) (hmo : ∀ i j, i ≤ j → j < n → p i = true → p j = true) (hr : Fst p n r)
    (hP : ∀ (k j : Nat), j < n → Calls Try.prog F (#[.int .i64 (j : Int)] ++ lb) (w.drewN k) fun e w' => e = .returned (.bool (p j)) ∧ ∃ k', w' = w.drewN k') :
    Calls Try.prog 53 #[.int .i64 (n : Int), .func (.func F) #[] lb] w (IntDrew (r : Int) w) := by
  have HP := Lib.hid hP
  have HR := Lib.hid hr
  have HMO := Lib.hid hmo
  have HS0 : Hid (Mid p n 0 n ∧ ∃ k, w = w.drewN k) := Lib.hid ⟨⟨Nat.zero_le _, Nat.le_refl _, fun j hj => absurd hj (Nat.not_lt_zero _), fun j h1 h2 => by omega⟩, 0, rfl⟩
  clear hP hmo hr
  go_enter Try.func53, Try.ntmps53
  go_wp2_with fail
  go_loopw [5, 6, 7] (fun s5 s6 _ wr => ∃ lo hi : Nat, s5 = .int .i64 (lo : Int) ∧ s6 = .int .i64 (hi : Int) ∧ lo ≤ hi ∧ hi ≤ n ∧ Hid (Mid p n lo hi ∧ ∃ k, wr = w.drewN k)) (fun s5 s6 _ _ => (intOf s6).toNat - (intOf s5).toNat)
  case atStart => exact ⟨0, n, rfl, rfl, Nat.zero_le _, Nat.le_refl _, HS0⟩
  case round =>
    clear HS0
    obtain ⟨lo, hi, rfl, rfl, hlh, hhn, HS⟩ := hrel
    by_cases hlt : lo < hi
    · obtain ⟨m, hm⟩ : ∃ m : Nat, (lo + hi) / 2 = m := ⟨_, rfl⟩
      have hml : lo ≤ m := by omega
      have hmh : m < hi := by omega
      obtain ⟨hmid, k, rfl⟩ := HS.out
      have HM := Lib.hid hmid
      have HC := Lib.hid (HP.out k m (by omega))
      have hmI : ((lo : Int) + (hi : Int)) / 2 = (m : Int) := by omega
      clear HS hmid hm
      cases hp : p m with
      | true =>
        rw [hp] at HC
        have HM2 := Lib.hid (HM.out.down HMO.out hml hmh hp)
        clear hp HM
        go_wp2_with fail
        refine HC.out.mono ?_
        rintro e w' ⟨rfl, k2, rfl⟩
        go_wp2_with fail
        go_roundw
        case rel => exact ⟨lo, m, rfl, rfl, hml, by omega, Lib.hid ⟨HM2.out, k2, rfl⟩⟩
        case measure => simp [intOf]; omega
      | false =>
        rw [hp] at HC
        have HM2 := Lib.hid (HM.out.up HMO.out hmh hp)
        clear hp HM
        go_wp2_with fail
        refine HC.out.mono ?_
        rintro e w' ⟨rfl, k2, rfl⟩
        go_wp2_with fail
        go_roundw
        case rel => exact ⟨m + 1, hi, by go_num, rfl, by omega, hhn, Lib.hid ⟨HM2.out, k2, rfl⟩⟩
        case measure => simp [intOf]; omega
    · have e : lo = hi := by omega
      subst e
      obtain ⟨hmid, k, rfl⟩ := HS.out
      have e2 : lo = r := Fst.is (p := p) (n := n) ⟨hmid.2.1, hmid.2.2.1, hmid.2.2.2⟩ HR.out
      subst e2
      clear HS hmid
      go_wp2
      go_ret
      exact ⟨rfl, k, rfl⟩
end Go.Proofs.Ytpgfkggfgkafjaa.Ro
namespace Go.Proofs.Ytpgfkggfgkafjaa.Ro
open Go.ChangeShapes Go.WideShapes Go.ChangeAt Go.RowKit Base
theorem isNaN_s (x : Int) (w : World) : Calls Try.prog 66 #[.int .u64 x] w fun e w' => e = .returned (.bool false) ∧ w' = w := by
  have h : (x != x) = false := by simp
  go_enter Try.func66, Try.ntmps66
  go_wp2
  go_ret
  exact ⟨rfl, rfl⟩
theorem isNaN_c (x : Int) (w : World) : Calls Try.prog 71 #[.int .u64 x] w fun e w' => e = .returned (.bool false) ∧ w' = w := by
  have h : (x != x) = false := by simp
  go_enter Try.func71, Try.ntmps71
  go_wp2
  go_ret
  exact ⟨rfl, rfl⟩
theorem isNaN_i (x : Int) (w : World) : Calls Try.prog 61 #[.int .i64 x] w fun e w' => e = .returned (.bool false) ∧ w' = w := by
  have h : (x != x) = false := by simp
  go_enter Try.func61, Try.ntmps61
  go_wp2
  go_ret
  exact ⟨rfl, rfl⟩
theorem less_u (x y : Int) (w : World) : Calls Try.prog 65 #[.int .u64 x, .int .u64 y] w fun e w' => e = .returned (.bool (decide (x < y))) ∧ w' = w := by
  go_enter Try.func65, Try.ntmps65
  go_wp2_with fail
  refine (isNaN_c x w).mono ?_
  rintro e w' ⟨rfl, rfl⟩
  go_wp2
  go_ret
  exact ⟨rfl, rfl⟩
def cmpI (x y : Int) : Int := if x < y then -1 else if y < x then 1 else 0
theorem compare_i (x y : Int) (w : World) : Calls Try.prog 45 #[.int .i64 x, .int .i64 y] w fun e w' => e = .returned (.int .i64 (cmpI x y)) ∧ w' = w := by
  unfold cmpI
  by_cases h1 : x < y
  · rw [if_pos h1]
    go_enter Try.func45, Try.ntmps45
    go_wp2_with fail
    refine (isNaN_i x w).mono ?_
    rintro e w' ⟨rfl, rfl⟩
    go_wp2_with fail
    refine (isNaN_i y w').mono ?_
    rintro e w2 ⟨rfl, rfl⟩
    go_wp2
    go_ret
    exact ⟨rfl, rfl⟩
  · rw [if_neg h1]
    by_cases h2 : y < x
    · rw [if_pos h2]
      go_enter Try.func45, Try.ntmps45
      go_wp2_with fail
      refine (isNaN_i x w).mono ?_
      rintro e w' ⟨rfl, rfl⟩
      go_wp2_with fail
      refine (isNaN_i y w').mono ?_
      rintro e w2 ⟨rfl, rfl⟩
      go_wp2
      go_ret
      exact ⟨rfl, rfl⟩
    · rw [if_neg h2]
      go_enter Try.func45, Try.ntmps45
      go_wp2_with fail
      refine (isNaN_i x w).mono ?_
      rintro e w' ⟨rfl, rfl⟩
      go_wp2_with fail
      refine (isNaN_i y w').mono ?_
      rintro e w2 ⟨rfl, rfl⟩
      go_wp2
      go_ret
      exact ⟨rfl, rfl⟩
/-- Numbers that rise. -/
def Up (xs : List Nat) : Prop := ∀ i j, i < j → j < xs.length → xs.getD i 0 < xs.getD j 0
def geP (xs : List Nat) (x : Nat) (j : Nat) : Bool := decide (x ≤ xs.getD j 0)
theorem geP_mono {xs : List Nat} (hu : Up xs) (x i j : Nat) (h : i ≤ j) (hj : j < xs.length) (hp : geP xs x i = true) : geP xs x j = true := by
  unfold geP at *
  rw [decide_eq_true_eq] at *
  rcases Nat.lt_or_eq_of_le h with h1 | h1
  · have := hu i j h1 hj; omega
  · subst h1; exact hp
set_option maxRecDepth 100000 in
set_option maxHeartbeats 4000000 in
theorem bsearch_u (g o c : Nat) (xs : List Nat) (x r : Nat) (w : World) (hn : xs.length ≤ 100000000) (hc : ∀ k, k < xs.length → w.cell? ⟨g, o + k, none⟩ = some (.int .u64 (xs.getD k 0 : Nat))) (hu : Up xs) (hr : Fst (geP xs x) xs.length r) :
    Calls Try.prog 56 #[.slice (some ⟨g, o, none⟩) xs.length c, .int .u64 (x : Int)] w fun e w' => e = .returned (.tuple #[.int .i64 (r : Int), .bool (decide (r < xs.length ∧ xs.getD r 0 = x))]) ∧ w' = w := by
  have HC := Lib.hid hc
  have HR := Lib.hid hr
  have HMO := Lib.hid (fun i j => geP_mono hu x i j)
  have HS0 : Hid (Mid (geP xs x) xs.length 0 xs.length) := Lib.hid ⟨Nat.zero_le _, Nat.le_refl _, fun j hj => absurd hj (Nat.not_lt_zero _), fun j h1 h2 => by omega⟩
  have HLS := Lib.hid (fun y : Int => less_u y (x : Int) w)
  generalize hres : decide (r < xs.length ∧ xs.getD r 0 = x) = res
  have HRS := Lib.hid hres
  have hrn := hr.1
  clear hc hr hu hres
  go_enter Try.func56, Try.ntmps56
  go_wp2_with fail
  go_loopw [7, 8, 9] (fun s7 s8 _ wr => ∃ lo hi : Nat, s7 = .int .i64 (lo : Int) ∧ s8 = .int .i64 (hi : Int) ∧ lo ≤ hi ∧ hi ≤ xs.length ∧ Hid (Mid (geP xs x) xs.length lo hi) ∧ wr = w) (fun s7 s8 _ _ => (intOf s8).toNat - (intOf s7).toNat)
  case atStart => exact ⟨0, xs.length, rfl, rfl, Nat.zero_le _, Nat.le_refl _, HS0, rfl⟩
  case round =>
    clear HS0
    obtain ⟨lo, hi, rfl, rfl, hlh, hhn, HM, rfl⟩ := hrel
    by_cases hlt : lo < hi
    · obtain ⟨m, hm⟩ : ∃ m : Nat, (lo + hi) / 2 = m := ⟨_, rfl⟩
      have hml : lo ≤ m := by omega
      have hmh : m < hi := by omega
      have hmI : ((lo : Int) + (hi : Int)) / 2 = (m : Int) := by omega
      have hcm := HC.out m (by omega)
      have HLM := Lib.hid (HLS.out ((xs.getD m 0 : Nat) : Int))
      have hmn : (m : Int) < (xs.length : Int) := by omega
      clear hm
      by_cases hlx : xs.getD m 0 < x
      · have hp : geP xs x m = false := by unfold geP; rw [decide_eq_false_iff_not]; omega
        have hd : decide (((xs.getD m 0 : Nat) : Int) < (x : Int)) = true := decide_eq_true (by omega)
        rw [hd] at HLM
        have HM2 := Lib.hid (HM.out.up HMO.out hmh hp)
        clear hp HM hd hlx
        generalize xs.getD m 0 = y at hcm HLM
        go_wp2_with fail
        refine HLM.out.mono ?_
        rintro e w' ⟨rfl, rfl⟩
        go_wp2_with fail
        go_roundw
        case rel => exact ⟨m + 1, hi, by go_num, rfl, by omega, hhn, HM2, by first | rfl | trivial⟩
        case measure => simp [intOf]; omega
      · have hp : geP xs x m = true := by unfold geP; rw [decide_eq_true_eq]; omega
        have hd : decide (((xs.getD m 0 : Nat) : Int) < (x : Int)) = false := decide_eq_false (by omega)
        rw [hd] at HLM
        have HM2 := Lib.hid (HM.out.down HMO.out hml hmh hp)
        clear hp HM hd hlx
        generalize xs.getD m 0 = y at hcm HLM
        go_wp2_with fail
        refine HLM.out.mono ?_
        rintro e w' ⟨rfl, rfl⟩
        go_wp2_with fail
        go_roundw
        case rel => exact ⟨lo, m, rfl, rfl, hml, by omega, HM2, by first | rfl | trivial⟩
        case measure => simp [intOf]; omega
    · have e : lo = hi := by omega
      subst e
      have e2 : lo = r := Fst.is (p := geP xs x) (n := xs.length) ⟨HM.out.2.1, HM.out.2.2.1, HM.out.2.2.2⟩ HR.out
      subst e2
      clear HM HR
      by_cases hln : lo < xs.length
      · have hcm := HC.out lo hln
        have HNA := Lib.hid (isNaN_s ((xs.getD lo 0 : Nat) : Int) wr)
        by_cases hx : xs.getD lo 0 = x
        · have hb := HRS.out
          rw [decide_eq_true ⟨hln, hx⟩] at hb
          subst hb
          rw [hx] at hcm
          clear hx HNA HC HLS HMO
          go_wp2
          go_ret2
          exact ⟨rfl, rfl⟩
        · have hb := HRS.out
          rw [decide_eq_false (by omega)] at hb
          subst hb
          have hne : (((xs.getD lo 0 : Nat) : Int) == (x : Int)) = false := by rw [beq_eq_false_iff_ne]; omega
          generalize xs.getD lo 0 = y at hcm hne HNA
          clear hx HC HLS HMO
          go_wp2_with fail
          refine HNA.out.mono ?_
          rintro e w' ⟨rfl, rfl⟩
          go_wp2
          go_ret2
          exact ⟨rfl, rfl⟩
      · have hb := HRS.out
        rw [decide_eq_false (by omega)] at hb
        subst hb
        clear HC HLS HMO
        go_wp2
        go_ret2
        exact ⟨rfl, rfl⟩
end Go.Proofs.Ytpgfkggfgkafjaa.Ro
