/-
  Contracts of small functions, several texts laid into one. Not a statement of the seat.
-/
import Derived.Test.YtimgdkafennohaaHead2
import Derived.Deep.Cut
import Derived.Deep.CutRange
import Derived.Deep.DeepCutAuto
import Derived.Shelf.Abstract
import Derived.WalkKit
namespace Go.Proofs.Ytimgdkafennohaa.Ro
open Go.ChangeShapes Go.WideShapes Go.ChangeAt Go.RowKit Base
/-- Up to r a test fails, from r on it holds. -/
def Fst (p : Nat → Bool) (n r : Nat) : Prop := r ≤ n ∧ (∀ j, j < r → p j = false) ∧ ∀ j, r ≤ j → j < n → p j = true
theorem Fst.is {p : Nat → Bool} {n r r' : Nat} (h : Fst p n r) (h' : Fst p n r') : r = r' := by
  rcases Nat.lt_trichotomy r r' with h1 | h1 | h1
  · have a := h'.2.1 r h1
    rw [h.2.2 r (Nat.le_refl _) (Nat.lt_of_lt_of_le h1 h'.1)] at a
    cases a
  · exact h1
  · have a := h.2.1 r' h1
    rw [h'.2.2 r' (Nat.le_refl _) (Nat.lt_of_lt_of_le h1 h.1)] at a
    cases a
/-- A search under way. -/
def Mid (p : Nat → Bool) (n lo hi : Nat) : Prop := lo ≤ hi ∧ hi ≤ n ∧ (∀ j, j < lo → p j = false) ∧ ∀ j, hi ≤ j → j < n → p j = true
theorem Mid.up {p : Nat → Bool} {n lo hi m : Nat} (h : Mid p n lo hi) (hmo : ∀ i j, i ≤ j → j < n → p i = true → p j = true) (hm : m < hi) (hp : p m = false) : Mid p n (m + 1) hi := by
  refine ⟨hm, h.2.1, fun j hj => ?_, h.2.2.2⟩
  cases hq : p j with
  | false => rfl
  | true =>
    have := hmo j m (by omega) (Nat.lt_of_lt_of_le hm h.2.1) hq
    rw [hp] at this; cases this
theorem Mid.down {p : Nat → Bool} {n lo hi m : Nat} (h : Mid p n lo hi) (hmo : ∀ i j, i ≤ j → j < n → p i = true → p j = true) (hl : lo ≤ m) (hm : m < hi) (hp : p m = true) : Mid p n lo m :=
  ⟨hl, Nat.le_of_lt (Nat.lt_of_lt_of_le hm h.2.1), h.2.2.1, fun j hj hn => hmo m j hj hn hp⟩
def IntDrew (x : Int) (w : World) (e : Ending) (w' : World) : Prop := e = .returned (.int .i64 x) ∧ ∃ k, w' = w.drewN k
set_option maxRecDepth 100000 in
set_option maxHeartbeats 4000000 in
theorem search_any (F : Nat) (lb : Array Value) (p : Nat → Bool) (n r : Nat) (hn : n ≤ 100000000) (eg : ∀ args w, (callFunc F args).run Try.prog w = .ok (.enter F args) w) (w : World) (hmo : ∀ i j, i ≤ j → j < n → p i = true → p j = true) (hr : Fst p n r)
    (hP : ∀ (k j : Nat), j < n → Calls Try.prog F (#[.int .i64 (j : Int)] ++ lb) (w.drewN k) fun e w' => e = .returned (.bool (p j)) ∧ ∃ k', w' = w.drewN k') :
    Calls Try.prog 47 #[.int .i64 (n : Int), .func (.func F) #[] lb] w (IntDrew (r : Int) w) := by
  have HP := Lib.hid hP
  have HR := Lib.hid hr
  have HMO := Lib.hid hmo
  have HS0 : Hid (Mid p n 0 n ∧ ∃ k, w = w.drewN k) := Lib.hid ⟨⟨Nat.zero_le _, Nat.le_refl _, fun j hj => absurd hj (Nat.not_lt_zero _), fun j h1 h2 => by omega⟩, 0, rfl⟩
  clear hP hmo hr
  go_enter Try.func47, Try.ntmps47
  go_wp2_with fail
  go_loopw [5, 6, 7] (fun s5 s6 _ wr => ∃ lo hi : Nat, s5 = .int .i64 (lo : Int) ∧ s6 = .int .i64 (hi : Int) ∧ lo ≤ hi ∧ hi ≤ n ∧ Hid (Mid p n lo hi ∧ ∃ k, wr = w.drewN k)) (fun s5 s6 _ _ => (intOf s6).toNat - (intOf s5).toNat)
  case atStart => exact ⟨0, n, rfl, rfl, Nat.zero_le _, Nat.le_refl _, HS0⟩
  case round =>
    clear HS0
    obtain ⟨lo, hi, rfl, rfl, hlh, hhn, HS⟩ := hrel
    by_cases hlt : lo < hi
    · obtain ⟨m, hm⟩ : ∃ m : Nat, (lo + hi) / 2 = m := ⟨_, rfl⟩
      have hml : lo ≤ m := by omega
      have hmh : m < hi := by omega
      obtain ⟨hmid, k, rfl⟩ := HS.out
      have HM := Lib.hid hmid
      have HC := Lib.hid (HP.out k m (by omega))
      have hmI : ((lo : Int) + (hi : Int)) / 2 = (m : Int) := by omega
      clear HS hmid hm
      cases hp : p m with
      | true =>
        rw [hp] at HC
        have HM2 := Lib.hid (HM.out.down HMO.out hml hmh hp)
        clear hp HM
        go_wp2_with fail
        refine HC.out.mono ?_
        rintro e w' ⟨rfl, k2, rfl⟩
        go_wp2_with fail
        go_roundw
        case rel => exact ⟨lo, m, rfl, rfl, hml, by omega, Lib.hid ⟨HM2.out, k2, rfl⟩⟩
        case measure => simp [intOf]; omega
      | false =>
        rw [hp] at HC
        have HM2 := Lib.hid (HM.out.up HMO.out hmh hp)
        clear hp HM
        go_wp2_with fail
        refine HC.out.mono ?_
        rintro e w' ⟨rfl, k2, rfl⟩
        go_wp2_with fail
        go_roundw
        case rel => exact ⟨m + 1, hi, by go_num, rfl, by omega, hhn, Lib.hid ⟨HM2.out, k2, rfl⟩⟩
        case measure => simp [intOf]; omega
    · have e : lo = hi := by omega
      subst e
      obtain ⟨hmid, k, rfl⟩ := HS.out
      have e2 : lo = r := Fst.is (p := p) (n := n) ⟨hmid.2.1, hmid.2.2.1, hmid.2.2.2⟩ HR.out
      subst e2
      clear HS hmid
      go_wp2
      go_ret
      exact ⟨rfl, k, rfl⟩
end Go.Proofs.Ytimgdkafennohaa.Ro
namespace Go.Proofs.Ytimgdkafennohaa.Ro
open Go.ChangeShapes Go.WideShapes Go.ChangeAt Go.RowKit Base
theorem isNaN_s (x : Int) (w : World) : Calls Try.prog 64 #[.int .u64 x] w fun e w' => e = .returned (.bool false) ∧ w' = w := by
  have h : (x != x) = false := by simp
  go_enter Try.func64, Try.ntmps64
  go_wp2
  go_ret
  exact ⟨rfl, rfl⟩
theorem isNaN_c (x : Int) (w : World) : Calls Try.prog 69 #[.int .u64 x] w fun e w' => e = .returned (.bool false) ∧ w' = w := by
  have h : (x != x) = false := by simp
  go_enter Try.func69, Try.ntmps69
  go_wp2
  go_ret
  exact ⟨rfl, rfl⟩
theorem isNaN_i (x : Int) (w : World) : Calls Try.prog 55 #[.int .i64 x] w fun e w' => e = .returned (.bool false) ∧ w' = w := by
  have h : (x != x) = false := by simp
  go_enter Try.func55, Try.ntmps55
  go_wp2
  go_ret
  exact ⟨rfl, rfl⟩
theorem less_u (x y : Int) (w : World) : Calls Try.prog 63 #[.int .u64 x, .int .u64 y] w fun e w' => e = .returned (.bool (decide (x < y))) ∧ w' = w := by
  go_enter Try.func63, Try.ntmps63
  go_wp2_with fail
  refine (isNaN_c x w).mono ?_
  rintro e w' ⟨rfl, rfl⟩
  go_wp2
  go_ret
  exact ⟨rfl, rfl⟩
def cmpI (x y : Int) : Int := if x < y then -1 else if y < x then 1 else 0
theorem compare_i (x y : Int) (w : World) : Calls Try.prog 35 #[.int .i64 x, .int .i64 y] w fun e w' => e = .returned (.int .i64 (cmpI x y)) ∧ w' = w := by
  unfold cmpI
  by_cases h1 : x < y
  · rw [if_pos h1]
    go_enter Try.func35, Try.ntmps35
    go_wp2_with fail
    refine (isNaN_i x w).mono ?_
    rintro e w' ⟨rfl, rfl⟩
    go_wp2_with fail
    refine (isNaN_i y w').mono ?_
    rintro e w2 ⟨rfl, rfl⟩
    go_wp2
    go_ret
    exact ⟨rfl, rfl⟩
  · rw [if_neg h1]
    by_cases h2 : y < x
    · rw [if_pos h2]
      go_enter Try.func35, Try.ntmps35
      go_wp2_with fail
      refine (isNaN_i x w).mono ?_
      rintro e w' ⟨rfl, rfl⟩
      go_wp2_with fail
      refine (isNaN_i y w').mono ?_
      rintro e w2 ⟨rfl, rfl⟩
      go_wp2
      go_ret
      exact ⟨rfl, rfl⟩
    · rw [if_neg h2]
      go_enter Try.func35, Try.ntmps35
      go_wp2_with fail
      refine (isNaN_i x w).mono ?_
      rintro e w' ⟨rfl, rfl⟩
      go_wp2_with fail
      refine (isNaN_i y w').mono ?_
      rintro e w2 ⟨rfl, rfl⟩
      go_wp2
      go_ret
      exact ⟨rfl, rfl⟩
/-- Numbers that rise. -/
def Up (xs : List Nat) : Prop := ∀ i j, i < j → j < xs.length → xs.getD i 0 < xs.getD j 0
def geP (xs : List Nat) (x : Nat) (j : Nat) : Bool := decide (x ≤ xs.getD j 0)
theorem geP_mono {xs : List Nat} (hu : Up xs) (x i j : Nat) (h : i ≤ j) (hj : j < xs.length) (hp : geP xs x i = true) : geP xs x j = true := by
  unfold geP at *
  rw [decide_eq_true_eq] at *
  rcases Nat.lt_or_eq_of_le h with h1 | h1
  · have := hu i j h1 hj; omega
  · subst h1; exact hp
set_option maxRecDepth 100000 in
set_option maxHeartbeats 4000000 in
theorem bsearch_u (g o c : Nat) (xs : List Nat) (x r : Nat) (w : World) (hn : xs.length ≤ 100000000) (hc : ∀ k, k < xs.length → w.cell? ⟨g, o + k, none⟩ = some (.int .u64 (xs.getD k 0 : Nat))) (hu : Up xs) (hr : Fst (geP xs x) xs.length r) :
    Calls Try.prog 50 #[.slice (some ⟨g, o, none⟩) xs.length c, .int .u64 (x : Int)] w fun e w' => e = .returned (.tuple #[.int .i64 (r : Int), .bool (decide (r < xs.length ∧ xs.getD r 0 = x))]) ∧ w' = w := by
  have HC := Lib.hid hc
  have HR := Lib.hid hr
  have HMO := Lib.hid (fun i j => geP_mono hu x i j)
  have HS0 : Hid (Mid (geP xs x) xs.length 0 xs.length) := Lib.hid ⟨Nat.zero_le _, Nat.le_refl _, fun j hj => absurd hj (Nat.not_lt_zero _), fun j h1 h2 => by omega⟩
  have HLS := Lib.hid (fun y : Int => less_u y (x : Int) w)
  generalize hres : decide (r < xs.length ∧ xs.getD r 0 = x) = res
  have HRS := Lib.hid hres
  have hrn := hr.1
  clear hc hr hu hres
  go_enter Try.func50, Try.ntmps50
  go_wp2_with fail
  go_loopw [7, 8, 9] (fun s7 s8 _ wr => ∃ lo hi : Nat, s7 = .int .i64 (lo : Int) ∧ s8 = .int .i64 (hi : Int) ∧ lo ≤ hi ∧ hi ≤ xs.length ∧ Hid (Mid (geP xs x) xs.length lo hi) ∧ wr = w) (fun s7 s8 _ _ => (intOf s8).toNat - (intOf s7).toNat)
  case atStart => exact ⟨0, xs.length, rfl, rfl, Nat.zero_le _, Nat.le_refl _, HS0, rfl⟩
  case round =>
    clear HS0
    obtain ⟨lo, hi, rfl, rfl, hlh, hhn, HM, rfl⟩ := hrel
    by_cases hlt : lo < hi
    · obtain ⟨m, hm⟩ : ∃ m : Nat, (lo + hi) / 2 = m := ⟨_, rfl⟩
      have hml : lo ≤ m := by omega
      have hmh : m < hi := by omega
      have hmI : ((lo : Int) + (hi : Int)) / 2 = (m : Int) := by omega
      have hcm := HC.out m (by omega)
      have HLM := Lib.hid (HLS.out ((xs.getD m 0 : Nat) : Int))
      have hmn : (m : Int) < (xs.length : Int) := by omega
      clear hm
      by_cases hlx : xs.getD m 0 < x
      · have hp : geP xs x m = false := by unfold geP; rw [decide_eq_false_iff_not]; omega
        have hd : decide (((xs.getD m 0 : Nat) : Int) < (x : Int)) = true := decide_eq_true (by omega)
        rw [hd] at HLM
        have HM2 := Lib.hid (HM.out.up HMO.out hmh hp)
        clear hp HM hd hlx
        generalize xs.getD m 0 = y at hcm HLM
        go_wp2_with fail
        refine HLM.out.mono ?_
        rintro e w' ⟨rfl, rfl⟩
        go_wp2_with fail
        go_roundw
        case rel => exact ⟨m + 1, hi, by go_num, rfl, by omega, hhn, HM2, by first | rfl | trivial⟩
        case measure => simp [intOf]; omega
      · have hp : geP xs x m = true := by unfold geP; rw [decide_eq_true_eq]; omega
        have hd : decide (((xs.getD m 0 : Nat) : Int) < (x : Int)) = false := decide_eq_false (by omega)
        rw [hd] at HLM
        have HM2 := Lib.hid (HM.out.down HMO.out hml hmh hp)
        clear hp HM hd hlx
        generalize xs.getD m 0 = y at hcm HLM
        go_wp2_with fail
        refine HLM.out.mono ?_
        rintro e w' ⟨rfl, rfl⟩
        go_wp2_with fail
        go_roundw
        case rel => exact ⟨lo, m, rfl, rfl, hml, by omega, HM2, by first | rfl | trivial⟩
        case measure => simp [intOf]; omega
    · have e : lo = hi := by omega
      subst e
      have e2 : lo = r := Fst.is (p := geP xs x) (n := xs.length) ⟨HM.out.2.1, HM.out.2.2.1, HM.out.2.2.2⟩ HR.out
      subst e2
      clear HM HR
      by_cases hln : lo < xs.length
      · have hcm := HC.out lo hln
        have HNA := Lib.hid (isNaN_s ((xs.getD lo 0 : Nat) : Int) wr)
        by_cases hx : xs.getD lo 0 = x
        · have hb := HRS.out
          rw [decide_eq_true ⟨hln, hx⟩] at hb
          subst hb
          rw [hx] at hcm
          clear hx HNA HC HLS HMO
          go_wp2
          go_ret2
          exact ⟨rfl, rfl⟩
        · have hb := HRS.out
          rw [decide_eq_false (by omega)] at hb
          subst hb
          have hne : (((xs.getD lo 0 : Nat) : Int) == (x : Int)) = false := by rw [beq_eq_false_iff_ne]; omega
          generalize xs.getD lo 0 = y at hcm hne HNA
          clear hx HC HLS HMO
          go_wp2_with fail
          refine HNA.out.mono ?_
          rintro e w' ⟨rfl, rfl⟩
          go_wp2
          go_ret2
          exact ⟨rfl, rfl⟩
      · have hb := HRS.out
        rw [decide_eq_false (by omega)] at hb
        subst hb
        clear HC HLS HMO
        go_wp2
        go_ret2
        exact ⟨rfl, rfl⟩
end Go.Proofs.Ytimgdkafennohaa.Ro
namespace Go.Proofs.Ytimgdkafennohaa.Ro
open Go.ChangeShapes Go.WideShapes Go.ChangeAt Go.RowKit Base
/-- A link: a node, the bits of the kinds, how many arcs of each kind. -/
structure Lk where
  (nd ks c0 c1 c2 c3 : Int)
def Lk.zero : Lk := ⟨0, 0, 0, 0, 0, 0⟩
def Lk.vals (k : Lk) : List Value := [.int .i16 k.nd, .int .i16 k.ks, .int .i32 k.c0, .int .i32 k.c1, .int .i32 k.c2, .int .i32 k.c3]
theorem i64_of16 {x : Int} (h : -32768 ≤ x ∧ x ≤ 32767) : IntKind.i64.wrap x = x := by rw [IntKind.wrap_i64]; omega
theorem cmp_node (a b c d e f x : Int) (ha : -32768 ≤ a ∧ a ≤ 32767) (w : World) : Calls Try.prog 34 #[.agg #[.int .i16 a, .int .i16 b, .int .i32 c, .int .i32 d, .int .i32 e, .int .i32 f], .int .i64 x] w fun en w' => en = .returned (.int .i64 (cmpI a x)) ∧ Below w.heap.size w w' := by
  have hw := i64_of16 ha
  go_enter Try.func34, Try.ntmps34
  go_wp2_with fail
  refine (compare_i a x _).mono ?_
  rintro en w' ⟨rfl, rfl⟩
  go_wp2
  go_ret
  exact ⟨rfl, by go_grown⟩
def UpK (xs : List Lk) : Prop := ∀ i j, i < j → j < xs.length → (xs.getD i Lk.zero).nd < (xs.getD j Lk.zero).nd
def geK (xs : List Lk) (x : Int) (j : Nat) : Bool := decide (x ≤ (xs.getD j Lk.zero).nd)
theorem geK_mono {xs : List Lk} (hu : UpK xs) (x : Int) (i j : Nat) (h : i ≤ j) (hj : j < xs.length) (hp : geK xs x i = true) : geK xs x j = true := by
  unfold geK at *
  rw [decide_eq_true_eq] at *
  rcases Nat.lt_or_eq_of_le h with h1 | h1
  · have := hu i j h1 hj; omega
  · subst h1; exact hp
/-- Cells that hold a list of links. -/
def LksAt (w : World) (p : Option Addr) (xs : List Lk) : Prop := ∀ k, k < xs.length → ∃ g o, p = some ⟨g, o, none⟩ ∧ g < w.heap.size ∧ w.cell? ⟨g, o + k * 6, none⟩ = some (.int .i16 (xs.getD k Lk.zero).nd) ∧ w.cell? ⟨g, o + k * 6 + 1, none⟩ = some (.int .i16 (xs.getD k Lk.zero).ks) ∧ w.cell? ⟨g, o + k * 6 + 2, none⟩ = some (.int .i32 (xs.getD k Lk.zero).c0) ∧ w.cell? ⟨g, o + k * 6 + 3, none⟩ = some (.int .i32 (xs.getD k Lk.zero).c1) ∧ w.cell? ⟨g, o + k * 6 + 4, none⟩ = some (.int .i32 (xs.getD k Lk.zero).c2) ∧ w.cell? ⟨g, o + k * 6 + 5, none⟩ = some (.int .i32 (xs.getD k Lk.zero).c3)
theorem cmpI_neg {a x : Int} (h : a < x) : cmpI a x = -1 := by unfold cmpI; rw [if_pos h]
theorem cmpI_pos {a x : Int} (h : x < a) : cmpI a x = 1 := by unfold cmpI; rw [if_neg (by omega), if_pos h]
theorem cmpI_eq (x : Int) : cmpI x x = 0 := by unfold cmpI; rw [if_neg (by omega), if_neg (by omega)]
set_option maxRecDepth 100000 in
set_option maxHeartbeats 4000000 in
theorem bsearch_k (p : Option Addr) (c : Nat) (xs : List Lk) (x : Int) (r : Nat) (w : World) (hn : xs.length ≤ 100000000) (hc : LksAt w p xs) (hb : ∀ k, k < xs.length → -32768 ≤ (xs.getD k Lk.zero).nd ∧ (xs.getD k Lk.zero).nd ≤ 32767) (hu : UpK xs) (hr : Fst (geK xs x) xs.length r) :
    Calls Try.prog 33 #[.slice p xs.length c, .int .i64 x, .func (.func 34) #[] #[]] w fun e w' => e = .returned (.tuple #[.int .i64 (r : Int), .bool (decide (r < xs.length ∧ (xs.getD r Lk.zero).nd = x))]) ∧ Below w.heap.size w w' := by
  have HC := Lib.hid hc
  have HR := Lib.hid hr
  have HBD := Lib.hid hb
  have HMO := Lib.hid (fun i j => geK_mono hu x i j)
  have HS0 : Hid (Mid (geK xs x) xs.length 0 xs.length) := Lib.hid ⟨Nat.zero_le _, Nat.le_refl _, fun j hj => absurd hj (Nat.not_lt_zero _), fun j h1 h2 => by omega⟩
  have HB0 := Lib.hid (Below.refl w.heap.size w)
  generalize hres : decide (r < xs.length ∧ (xs.getD r Lk.zero).nd = x) = res
  have HRS := Lib.hid hres
  have hrn := hr.1
  clear hc hr hu hres hb
  go_enter Try.func33, Try.ntmps33
  go_wp2_with fail
  go_loopw [9, 10, 11] (fun s9 s10 _ wr => ∃ lo hi : Nat, s9 = .int .i64 (lo : Int) ∧ s10 = .int .i64 (hi : Int) ∧ lo ≤ hi ∧ hi ≤ xs.length ∧ Hid (Mid (geK xs x) xs.length lo hi) ∧ Hid (Below w.heap.size w wr)) (fun s9 s10 _ _ => (intOf s10).toNat - (intOf s9).toNat)
  case atStart => exact ⟨0, xs.length, rfl, rfl, Nat.zero_le _, Nat.le_refl _, HS0, HB0⟩
  case round =>
    clear HS0 HB0
    obtain ⟨lo, hi, rfl, rfl, hlh, hhn, HM, HB⟩ := hrel
    by_cases hlt : lo < hi
    · obtain ⟨m, hm⟩ : ∃ m : Nat, (lo + hi) / 2 = m := ⟨_, rfl⟩
      have hml : lo ≤ m := by omega
      have hmh : m < hi := by omega
      have hmI : ((lo : Int) + (hi : Int)) / 2 = (m : Int) := by omega
      obtain ⟨g, o, rfl, hg, d0, d1, d2, d3, d4, d5⟩ := HC.out m (by omega)
      have d0 := (HB.out.cell (p := ⟨g, _, none⟩) hg).trans d0
      have d1 := (HB.out.cell (p := ⟨g, _, none⟩) hg).trans d1
      have d2 := (HB.out.cell (p := ⟨g, _, none⟩) hg).trans d2
      have d3 := (HB.out.cell (p := ⟨g, _, none⟩) hg).trans d3
      have d4 := (HB.out.cell (p := ⟨g, _, none⟩) hg).trans d4
      have d5 := (HB.out.cell (p := ⟨g, _, none⟩) hg).trans d5
      have hbm := HBD.out m (by omega)
      have hmn : (m : Int) < (xs.length : Int) := by omega
      clear hm hg
      by_cases hlx : (xs.getD m Lk.zero).nd < x
      · have hp : geK xs x m = false := by unfold geK; rw [decide_eq_false_iff_not]; omega
        have HM2 := Lib.hid (HM.out.up HMO.out hmh hp)
        have HCM := Lib.hid (fun X : World => cmp_node (xs.getD m Lk.zero).nd (xs.getD m Lk.zero).ks (xs.getD m Lk.zero).c0 (xs.getD m Lk.zero).c1 (xs.getD m Lk.zero).c2 (xs.getD m Lk.zero).c3 x hbm X)
        rw [cmpI_neg hlx] at HCM
        clear hp HM hlx hbm
        generalize xs.getD m Lk.zero = y at d0 d1 d2 d3 d4 d5 HCM
        obtain ⟨y0, y1, y2, y3, y4, y5⟩ := y
        simp only at d0 d1 d2 d3 d4 d5 HCM
        go_wp2_with fail
        refine (HCM.out _).mono ?_
        rintro e w' ⟨rfl, hb⟩
        have HB2 := Lib.hid (HB.out.trans (hb.mono HB.out.size))
        clear hb
        go_wp2_with fail
        go_roundw
        case rel => exact ⟨m + 1, hi, by go_num, rfl, by omega, hhn, HM2, HB2⟩
        case measure => simp [intOf]; omega
      · have hp : geK xs x m = true := by unfold geK; rw [decide_eq_true_eq]; omega
        have HM2 := Lib.hid (HM.out.down HMO.out hml hmh hp)
        obtain ⟨cv, hcv, hcn⟩ : ∃ cv, cmpI (xs.getD m Lk.zero).nd x = cv ∧ ¬ cv < 0 := by
          refine ⟨_, rfl, ?_⟩
          unfold cmpI
          rw [if_neg hlx]
          split <;> omega
        have HCM := Lib.hid (fun X : World => cmp_node (xs.getD m Lk.zero).nd (xs.getD m Lk.zero).ks (xs.getD m Lk.zero).c0 (xs.getD m Lk.zero).c1 (xs.getD m Lk.zero).c2 (xs.getD m Lk.zero).c3 x hbm X)
        rw [hcv] at HCM
        clear hp HM hlx hbm hcv
        generalize xs.getD m Lk.zero = y at d0 d1 d2 d3 d4 d5 HCM
        obtain ⟨y0, y1, y2, y3, y4, y5⟩ := y
        simp only at d0 d1 d2 d3 d4 d5 HCM
        go_wp2_with fail
        refine (HCM.out _).mono ?_
        rintro e w' ⟨rfl, hb⟩
        have HB2 := Lib.hid (HB.out.trans (hb.mono HB.out.size))
        clear hb
        go_wp2_with fail
        go_roundw
        case rel => exact ⟨lo, m, rfl, rfl, hml, by omega, HM2, HB2⟩
        case measure => simp [intOf]; omega
    · have e : lo = hi := by omega
      subst e
      have e2 : lo = r := Fst.is (p := geK xs x) (n := xs.length) ⟨HM.out.2.1, HM.out.2.2.1, HM.out.2.2.2⟩ HR.out
      subst e2
      clear HM HR
      by_cases hln : lo < xs.length
      · obtain ⟨g, o, rfl, hg, d0, d1, d2, d3, d4, d5⟩ := HC.out lo hln
        have d0 := (HB.out.cell (p := ⟨g, _, none⟩) hg).trans d0
        have d1 := (HB.out.cell (p := ⟨g, _, none⟩) hg).trans d1
        have d2 := (HB.out.cell (p := ⟨g, _, none⟩) hg).trans d2
        have d3 := (HB.out.cell (p := ⟨g, _, none⟩) hg).trans d3
        have d4 := (HB.out.cell (p := ⟨g, _, none⟩) hg).trans d4
        have d5 := (HB.out.cell (p := ⟨g, _, none⟩) hg).trans d5
        have hbm := HBD.out lo hln
        obtain ⟨cv, hcv, hcn⟩ : ∃ cv, cmpI (xs.getD lo Lk.zero).nd x = cv ∧ (cv == 0) = res := by
          refine ⟨_, rfl, ?_⟩
          rw [← HRS.out]
          unfold cmpI
          by_cases h1 : (xs.getD lo Lk.zero).nd < x
          · rw [if_pos h1, decide_eq_false (by omega)]; rfl
          · rw [if_neg h1]
            by_cases h2 : x < (xs.getD lo Lk.zero).nd
            · rw [if_pos h2, decide_eq_false (by omega)]; rfl
            · rw [if_neg h2, decide_eq_true ⟨hln, by omega⟩]; rfl
        have HCM := Lib.hid (fun X : World => cmp_node (xs.getD lo Lk.zero).nd (xs.getD lo Lk.zero).ks (xs.getD lo Lk.zero).c0 (xs.getD lo Lk.zero).c1 (xs.getD lo Lk.zero).c2 (xs.getD lo Lk.zero).c3 x hbm X)
        rw [hcv] at HCM
        clear hbm hcv HC HMO HRS hg HBD
        generalize xs.getD lo Lk.zero = y at d0 d1 d2 d3 d4 d5 HCM
        obtain ⟨y0, y1, y2, y3, y4, y5⟩ := y
        simp only at d0 d1 d2 d3 d4 d5 HCM
        go_wp2_with fail
        refine (HCM.out _).mono ?_
        rintro e w' ⟨rfl, hb⟩
        have HB2 := Lib.hid (HB.out.trans (hb.mono HB.out.size))
        clear hb
        go_wp2
        go_ret2
        exact ⟨rfl, HB2.out⟩
      · have hb := HRS.out
        rw [decide_eq_false (by omega)] at hb
        subst hb
        clear HC HMO HBD
        go_wp2
        go_ret2
        exact ⟨rfl, HB.out⟩
end Go.Proofs.Ytimgdkafennohaa.Ro
