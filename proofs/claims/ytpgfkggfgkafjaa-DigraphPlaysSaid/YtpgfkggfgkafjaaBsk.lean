/-
  slices.BinarySearchFunc over links, by their nodes. Not a statement of the seat.
-/
import Derived.Test.YtpgfkggfgkafjaaHead2
namespace Go.Proofs.Ytpgfkggfgkafjaa.Ro
open Go.ChangeShapes Go.WideShapes Go.ChangeAt Go.RowKit Base
/-- A link: a node, the bits of the kinds, how many arcs of each kind. -/
structure Lk where
  (nd ks c0 c1 c2 c3 : Int)
def Lk.zero : Lk := ⟨0, 0, 0, 0, 0, 0⟩
def Lk.vals (k : Lk) : List Value := [.int .i16 k.nd, .int .i16 k.ks, .int .i32 k.c0, .int .i32 k.c1, .int .i32 k.c2, .int .i32 k.c3]
theorem i64_of16 {x : Int} (h : -32768 ≤ x ∧ x ≤ 32767) : IntKind.i64.wrap x = x := by rw [IntKind.wrap_i64]; omega
theorem cmp_node (a b c d e f x : Int) (ha : -32768 ≤ a ∧ a ≤ 32767) (w : World) : Calls Try.prog 44 #[.agg #[.int .i16 a, .int .i16 b, .int .i32 c, .int .i32 d, .int .i32 e, .int .i32 f], .int .i64 x] w fun en w' => en = .returned (.int .i64 (cmpI a x)) ∧ Below w.heap.size w w' := by
  have hw := i64_of16 ha
  go_enter Try.func44, Try.ntmps44
  go_wp2_with fail
  refine (compare_i a x _).mono ?_
  rintro en w' ⟨rfl, rfl⟩
  go_wp2
  go_ret
  exact ⟨rfl, by go_grown⟩
def UpK (xs : List Lk) : Prop := ∀ i j, i < j → j < xs.length → (xs.getD i Lk.zero).nd < (xs.getD j Lk.zero).nd
def geK (xs : List Lk) (x : Int) (j : Nat) : Bool := decide (x ≤ (xs.getD j Lk.zero).nd)
theorem geK_mono {xs : List Lk} (hu : UpK xs) (x : Int) (i j : Nat) (h : i ≤ j) (hj : j < xs.length) (hp : geK xs x i = true) : geK xs x j = true := by
  unfold geK at *
  rw [decide_eq_true_eq] at *
  rcases Nat.lt_or_eq_of_le h with h1 | h1
  · have := hu i j h1 hj; omega
  · subst h1; exact hp
/-- Cells that hold a list of links. -/
def LksAt (w : World) (p : Option Addr) (xs : List Lk) : Prop := ∀ k, k < xs.length → ∃ g o, p = some ⟨g, o, none⟩ ∧ g < w.heap.size ∧ w.cell? ⟨g, o + k * 6, none⟩ = some (.int .i16 (xs.getD k Lk.zero).nd) ∧ w.cell? ⟨g, o + k * 6 + 1, none⟩ = some (.int .i16 (xs.getD k Lk.zero).ks) ∧ w.cell? ⟨g, o + k * 6 + 2, none⟩ = some (.int .i32 (xs.getD k Lk.zero).c0) ∧ w.cell? ⟨g, o + k * 6 + 3, none⟩ = some (.int .i32 (xs.getD k Lk.zero).c1) ∧ w.cell? ⟨g, o + k * 6 + 4, none⟩ = some (.int .i32 (xs.getD k Lk.zero).c2) ∧ w.cell? ⟨g, o + k * 6 + 5, none⟩ = some (.int .i32 (xs.getD k Lk.zero).c3)
theorem cmpI_neg {a x : Int} (h : a < x) : cmpI a x = -1 := by unfold cmpI; rw [if_pos h]
theorem cmpI_pos {a x : Int} (h : x < a) : cmpI a x = 1 := by unfold cmpI; rw [if_neg (by omega), if_pos h]
theorem cmpI_eq (x : Int) : cmpI x x = 0 := by unfold cmpI; rw [if_neg (by omega), if_neg (by omega)]
set_option maxRecDepth 100000 in
set_option maxHeartbeats 4000000 in
theorem bsearch_k (p : Option Addr) (c : Nat) (xs : List Lk) (x : Int) (r : Nat) (w : World) (hn : xs.length ≤ 100000000) (hc : LksAt w p xs) (hb : ∀ k, k < xs.length → -32768 ≤ (xs.getD k Lk.zero).nd ∧ (xs.getD k Lk.zero).nd ≤ 32767) (hu : UpK xs) (hr : Fst (geK xs x) xs.length r) :
    Calls Try.prog 43 #[.slice p xs.length c, .int .i64 x, .func (.func 44) #[] #[]] w fun e w' => e = .returned (.tuple #[.int .i64 (r : Int), .bool (decide (r < xs.length ∧ (xs.getD r Lk.zero).nd = x))]) ∧ Below w.heap.size w w' := by
  have HC := Lib.hid hc
  have HR := Lib.hid hr
  have HBD := Lib.hid hb
  have HMO := Lib.hid (fun i j => geK_mono hu x i j)
  have HS0 : Hid (Mid (geK xs x) xs.length 0 xs.length) := Lib.hid ⟨Nat.zero_le _, Nat.le_refl _, fun j hj => absurd hj (Nat.not_lt_zero _), fun j h1 h2 => by omega⟩
  have HB0 := Lib.hid (Below.refl w.heap.size w)
  generalize hres : decide (r < xs.length ∧ (xs.getD r Lk.zero).nd = x) = res
  have HRS := Lib.hid hres
  have hrn := hr.1
  clear hc hr hu hres hb
  go_enter Try.func43, Try.ntmps43
  go_wp2_with fail
  go_loopw [9, 10, 11] (fun s9 s10 _ wr => ∃ lo hi : Nat, s9 = .int .i64 (lo : Int) ∧ s10 = .int .i64 (hi : Int) ∧ lo ≤ hi ∧ hi ≤ xs.length ∧ Hid (Mid (geK xs x) xs.length lo hi) ∧ Hid (Below w.heap.size w wr)) (fun s9 s10 _ _ => (intOf s10).toNat - (intOf s9).toNat)
  case atStart => exact ⟨0, xs.length, rfl, rfl, Nat.zero_le _, Nat.le_refl _, HS0, HB0⟩
  case round =>
    clear HS0 HB0
    obtain ⟨lo, hi, rfl, rfl, hlh, hhn, HM, HB⟩ := hrel
    by_cases hlt : lo < hi
    · obtain ⟨m, hm⟩ : ∃ m : Nat, (lo + hi) / 2 = m := ⟨_, rfl⟩
      have hml : lo ≤ m := by omega
      have hmh : m < hi := by omega
      have hmI : ((lo : Int) + (hi : Int)) / 2 = (m : Int) := by omega
      obtain ⟨g, o, rfl, hg, d0, d1, d2, d3, d4, d5⟩ := HC.out m (by omega)
      have d0 := (HB.out.cell (p := ⟨g, _, none⟩) hg).trans d0
      have d1 := (HB.out.cell (p := ⟨g, _, none⟩) hg).trans d1
      have d2 := (HB.out.cell (p := ⟨g, _, none⟩) hg).trans d2
      have d3 := (HB.out.cell (p := ⟨g, _, none⟩) hg).trans d3
      have d4 := (HB.out.cell (p := ⟨g, _, none⟩) hg).trans d4
      have d5 := (HB.out.cell (p := ⟨g, _, none⟩) hg).trans d5
      have hbm := HBD.out m (by omega)
      have hmn : (m : Int) < (xs.length : Int) := by omega
      clear hm hg
      by_cases hlx : (xs.getD m Lk.zero).nd < x
      · have hp : geK xs x m = false := by unfold geK; rw [decide_eq_false_iff_not]; omega
        have HM2 := Lib.hid (HM.out.up HMO.out hmh hp)
        have HCM := Lib.hid (fun X : World => cmp_node (xs.getD m Lk.zero).nd (xs.getD m Lk.zero).ks (xs.getD m Lk.zero).c0 (xs.getD m Lk.zero).c1 (xs.getD m Lk.zero).c2 (xs.getD m Lk.zero).c3 x hbm X)
        rw [cmpI_neg hlx] at HCM
        clear hp HM hlx hbm
        generalize xs.getD m Lk.zero = y at d0 d1 d2 d3 d4 d5 HCM
        obtain ⟨y0, y1, y2, y3, y4, y5⟩ := y
        simp only at d0 d1 d2 d3 d4 d5 HCM
        go_wp2_with fail
        refine (HCM.out _).mono ?_
        rintro e w' ⟨rfl, hb⟩
        have HB2 := Lib.hid (HB.out.trans (hb.mono HB.out.size))
        clear hb
        go_wp2_with fail
        go_roundw
        case rel => exact ⟨m + 1, hi, by go_num, rfl, by omega, hhn, HM2, HB2⟩
        case measure => simp [intOf]; omega
      · have hp : geK xs x m = true := by unfold geK; rw [decide_eq_true_eq]; omega
        have HM2 := Lib.hid (HM.out.down HMO.out hml hmh hp)
        obtain ⟨cv, hcv, hcn⟩ : ∃ cv, cmpI (xs.getD m Lk.zero).nd x = cv ∧ ¬ cv < 0 := by
          refine ⟨_, rfl, ?_⟩
          unfold cmpI
          rw [if_neg hlx]
          split <;> omega
        have HCM := Lib.hid (fun X : World => cmp_node (xs.getD m Lk.zero).nd (xs.getD m Lk.zero).ks (xs.getD m Lk.zero).c0 (xs.getD m Lk.zero).c1 (xs.getD m Lk.zero).c2 (xs.getD m Lk.zero).c3 x hbm X)
        rw [hcv] at HCM
        clear hp HM hlx hbm hcv
        generalize xs.getD m Lk.zero = y at d0 d1 d2 d3 d4 d5 HCM
        obtain ⟨y0, y1, y2, y3, y4, y5⟩ := y
        simp only at d0 d1 d2 d3 d4 d5 HCM
        go_wp2_with fail
        refine (HCM.out _).mono ?_
        rintro e w' ⟨rfl, hb⟩
        have HB2 := Lib.hid (HB.out.trans (hb.mono HB.out.size))
        clear hb
        go_wp2_with fail
        go_roundw
        case rel => exact ⟨lo, m, rfl, rfl, hml, by omega, HM2, HB2⟩
        case measure => simp [intOf]; omega
    · have e : lo = hi := by omega
      subst e
      have e2 : lo = r := Fst.is (p := geK xs x) (n := xs.length) ⟨HM.out.2.1, HM.out.2.2.1, HM.out.2.2.2⟩ HR.out
      subst e2
      clear HM HR
      by_cases hln : lo < xs.length
      · obtain ⟨g, o, rfl, hg, d0, d1, d2, d3, d4, d5⟩ := HC.out lo hln
        have d0 := (HB.out.cell (p := ⟨g, _, none⟩) hg).trans d0
        have d1 := (HB.out.cell (p := ⟨g, _, none⟩) hg).trans d1
        have d2 := (HB.out.cell (p := ⟨g, _, none⟩) hg).trans d2
        have d3 := (HB.out.cell (p := ⟨g, _, none⟩) hg).trans d3
        have d4 := (HB.out.cell (p := ⟨g, _, none⟩) hg).trans d4
        have d5 := (HB.out.cell (p := ⟨g, _, none⟩) hg).trans d5
        have hbm := HBD.out lo hln
        obtain ⟨cv, hcv, hcn⟩ : ∃ cv, cmpI (xs.getD lo Lk.zero).nd x = cv ∧ (cv == 0) = res := by
          refine ⟨_, rfl, ?_⟩
          rw [← HRS.out]
          unfold cmpI
          by_cases h1 : (xs.getD lo Lk.zero).nd < x
          · rw [if_pos h1, decide_eq_false (by omega)]; rfl
          · rw [if_neg h1]
            by_cases h2 : x < (xs.getD lo Lk.zero).nd
            · rw [if_pos h2, decide_eq_false (by omega)]; rfl
            · rw [if_neg h2, decide_eq_true ⟨hln, by omega⟩]; rfl
        have HCM := Lib.hid (fun X : World => cmp_node (xs.getD lo Lk.zero).nd (xs.getD lo Lk.zero).ks (xs.getD lo Lk.zero).c0 (xs.getD lo Lk.zero).c1 (xs.getD lo Lk.zero).c2 (xs.getD lo Lk.zero).c3 x hbm X)
        rw [hcv] at HCM
        clear hbm hcv HC HMO HRS hg HBD
        generalize xs.getD lo Lk.zero = y at d0 d1 d2 d3 d4 d5 HCM
        obtain ⟨y0, y1, y2, y3, y4, y5⟩ := y
        simp only at d0 d1 d2 d3 d4 d5 HCM
        go_wp2_with fail
        refine (HCM.out _).mono ?_
        rintro e w' ⟨rfl, hb⟩
        have HB2 := Lib.hid (HB.out.trans (hb.mono HB.out.size))
        clear hb
        go_wp2
        go_ret2
        exact ⟨rfl, HB2.out⟩
      · have hb := HRS.out
        rw [decide_eq_false (by omega)] at hb
        subst hb
        clear HC HMO HBD
        go_wp2
        go_ret2
        exact ⟨rfl, HB.out⟩
end Go.Proofs.Ytpgfkggfgkafjaa.Ro
