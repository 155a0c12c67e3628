/-
  Walks: contracts of slices.CompareFunc and both Lesses. Not a statement of the seat.
-/
import Derived.Test.YtjknnbeemcpppaaDoorWk1
import Derived.Deep.RegionHeld3
namespace Go.Proofs.YtjknnbeemcpppaaDoor.Wk
open Go.ChangeShapes Go.WideShapes Go.ChangeAt Go.RowKit Base Pk F
theorem lex_at {a b : List E} (h : a.length = b.length) {i : Nat} (hi : i < a.length) (hs : ∀ t, t < i → a.getD t zE = b.getD t zE) (hne : a.getD i zE ≠ b.getD i zE) : lexB ltE a b = ltE (a.getD i zE) (b.getD i zE) := by
  cases e : ltE (a.getD i zE) (b.getD i zE) with
  | true => exact (lex_iff totL h).2 ⟨i, hi, hs, e⟩
  | false =>
    cases e2 : lexB ltE a b with
    | false => rfl
    | true =>
      obtain ⟨k, h1, h2, h3⟩ := (lex_iff (z := zE) totL h).1 e2
      rcases Nat.lt_trichotomy k i with hk | hk | hk
      · rw [hs k hk, totL.irr] at h3; cases h3
      · subst hk; rw [e] at h3; cases h3
      · exact absurd (h2 i hk) hne
theorem lex_end {a b : List E} (h : a.length = b.length) (hs : ∀ t, t < a.length → a.getD t zE = b.getD t zE) : lexB ltE a b = false := by
  rw [edges_ext h hs]
  exact lex_irr totL b
theorem cmpW_neg (x y : E) : decide (cmpW x y < 0) = ltE x y := by
  unfold cmpW
  cases ltE x y
  · cases ltE y x <;> rfl
  · rfl
theorem cmpW_zero (x y : E) : cmpW x y = 0 ↔ x = y := by
  constructor
  · intro h
    unfold cmpW at h
    rcases totL.tri x y with e | e | e
    · rw [e] at h; cases h
    · exact e
    · cases e2 : ltE x y
      · rw [e2, e] at h; cases h
      · rw [e2] at h; cases h
  · rintro rfl
    unfold cmpW
    rw [totL.irr]
    rfl
/-- Which of two walks is first. -/
def lessW (xs ys : List E) : Bool := if xs.length = ys.length then lexB ltE xs ys else decide (xs.length < ys.length)
set_option maxRecDepth 100000 in
set_option maxHeartbeats 4000000 in
theorem cmpF_any {va vb : Value} {xs ys : List E} {n : Nat} (w : World) (hx : Eds w va xs) (hy : Eds w vb ys) (h1 : xs.length = n) (h2 : ys.length = n) (hn : n ≤ 1000) :
    Calls Tryd.prog 23 #[va, vb, .func (.func 24) #[] #[]] w fun e w' => ∃ c : Int, e = .returned (.int .i64 c) ∧ decide (c < 0) = lexB ltE xs ys ∧ Below w.heap.size w w' := by
  obtain ⟨p1, c1, rfl, hA⟩ := eds_at hx h1
  obtain ⟨p2, c2, rfl, hB⟩ := eds_at hy h2
  have HA := Lib.hid hA
  have HB := Lib.hid hB
  have HAT : Hid (∀ i, i < n → (∀ t, t < i → xs.getD t zE = ys.getD t zE) → xs.getD i zE ≠ ys.getD i zE → lexB ltE xs ys = ltE (xs.getD i zE) (ys.getD i zE)) := Lib.hid fun i hi hs hne => lex_at (h1.trans h2.symm) (by omega) hs hne
  have HEN : Hid ((∀ t, t < n → xs.getD t zE = ys.getD t zE) → lexB ltE xs ys = false) := Lib.hid fun hs => lex_end (h1.trans h2.symm) (fun t ht => hs t (by omega))
  have hni : (n : Int) ≤ 1000 := by omega
  clear hA hB hx hy h1 h2
  generalize lexB ltE xs ys = r at HAT HEN ⊢
  go_enter Tryd.func23, Tryd.ntmps23
  go_wp2_with fail
  go_loopw [13] (fun s13 wr => ∃ i : Nat, s13 = .int .i64 (i : Int) ∧ i ≤ n ∧ Hid (Below w.heap.size w wr ∧ ∀ t, t < i → xs.getD t zE = ys.getD t zE)) (fun s13 _ => n - (intOf s13).toNat)
  case atStart => exact ⟨0, rfl, Nat.zero_le _, Lib.hid ⟨Below.refl _ _, fun t ht => absurd ht (Nat.not_lt_zero _)⟩⟩
  case round =>
    obtain ⟨i, rfl, hi, HI⟩ := hrel
    by_cases hlt : i < n
    · have hii : (i : Int) < (n : Int) := by omega
      have hng : ¬ (n : Int) ≤ (i : Int) := by omega
      obtain ⟨g, o, rfl, hcl⟩ := HA.out i hlt
      obtain ⟨g2, o2, rfl, hcl2⟩ := HB.out i hlt
      obtain ⟨hg, a0, a1, a2, a3⟩ := hcl wr HI.out.1
      have HK := Lib.hid (fun ob => (hcl2 (wr.alloc ob) (HI.out.1.trans ((alloc_bel wr ob).mono HI.out.1.size))))
      have HJ : Hid (Below w.heap.size w wr ∧ (xs.getD i zE = ys.getD i zE → ∀ t, t < i + 1 → xs.getD t zE = ys.getD t zE) ∧ (xs.getD i zE ≠ ys.getD i zE → r = ltE (xs.getD i zE) (ys.getD i zE))) := Lib.hid ⟨HI.out.1, fun hj t ht => by
        by_cases e : t = i
        · rw [e]; exact hj
        · exact HI.out.2 t (by omega), HAT.out i hlt HI.out.2⟩
      generalize xs.getD i zE = x at a0 a1 a2 a3 HJ
      generalize ys.getD i zE = y at HK HJ
      have HCW := Lib.hid (fun W => compare_wk x y W)
      have HNG := Lib.hid (cmpW_neg x y)
      have HZ := Lib.hid (cmpW_zero x y)
      generalize cmpW x y = c at HCW HNG HZ
      generalize ltE x y = s at HJ HNG
      unfold vE at HCW
      obtain ⟨x0, x1, x2, x3⟩ := x
      obtain ⟨y0, y1, y2, y3⟩ := y
      dsimp only at a0 a1 a2 a3 HK HCW
      obtain ⟨hg2, b0, b1, b2, b3⟩ := HK.out (.cells #[.int .i64 x0, .int .i64 x1, .int .i64 x2, .int .i64 x3] 32)
      clear hcl hcl2 HI HK
      have HBA : Hid (Below w.heap.size w ((wr.alloc (.cells #[.int .i64 x0, .int .i64 x1, .int .i64 x2, .int .i64 x3] 32)).alloc (.cells #[.int .i64 y0, .int .i64 y1, .int .i64 y2, .int .i64 y3] 32))) := Lib.hid ((HJ.out.1.alloc HJ.out.1.size _).alloc (by have := HJ.out.1.size; simp; omega) _)
      go_wp2_with fail
      refine (HCW.out _).mono ?_
      rintro e w2 ⟨rfl, hb2⟩
      have HB2 := Lib.hid (HBA.out.trans (hb2.mono HBA.out.size))
      clear hb2 HBA a0 a1 a2 a3 b0 b1 b2 b3 hg hg2
      by_cases hc : c = 0
      · have HN2 := Lib.hid (HJ.out.2.1 (HZ.out.1 hc))
        subst hc
        clear HJ HNG HZ HCW
        go_wp2_with fail
        go_roundw
        case rel => exact ⟨i + 1, by go_num, by omega, Lib.hid ⟨HB2.out, HN2.out⟩⟩
        case measure => simp [intOf]; omega
      · have hcb : (c != 0) = true := by rw [bne_iff_ne]; exact hc
        have HR : Hid (decide (c < 0) = r) := Lib.hid (by rw [HNG.out, HJ.out.2.2 (fun e => hc (HZ.out.2 e))])
        clear HJ HNG HZ HCW hc
        go_wp2
        go_ret
        exact ⟨c, rfl, HR.out, HB2.out⟩
    · have hin : i = n := by omega
      subst hin
      have HR : Hid (r = false) := Lib.hid (HEN.out HI.out.2)
      have HW := Lib.hid HI.out.1
      have hii : ¬ (i : Int) < (i : Int) := by omega
      clear HI hlt HAT HEN
      go_wp2
      go_ret
      exact ⟨0, rfl, by rw [HR.out]; rfl, HW.out⟩
set_option maxRecDepth 100000 in
set_option maxHeartbeats 2000000 in
theorem wless_any {va vb : Value} {xs ys : List E} (w : World) (hx : Eds w va xs) (hy : Eds w vb ys) (_hn : xs.length ≤ 1000) (hm : ys.length ≤ 1000) :
    Calls Tryd.prog 12 #[va, vb] w (BoolP (lessW xs ys) w) := by
  have HC : Hid (xs.length = ys.length → _) := Lib.hid fun h : xs.length = ys.length => cmpF_any w hx hy h rfl hm
  obtain ⟨p1, c1, hv1, _⟩ := eds_at hx rfl
  obtain ⟨p2, c2, hv2, _⟩ := eds_at hy rfl
  subst hv1 hv2
  have HL : Hid (lessW xs ys = if xs.length = ys.length then lexB ltE xs ys else decide (xs.length < ys.length)) := Lib.hid rfl
  generalize lessW xs ys = r at HL ⊢
  generalize lexB ltE xs ys = s at HC HL
  clear hx hy
  generalize xs.length = n at *
  generalize ys.length = m at *
  by_cases h : n = m
  · subst h
    have H := Lib.hid (HC.out rfl)
    have hr : r = s := by rw [HL.out, if_pos rfl]
    subst hr
    clear HC HL
    go_enter Tryd.func12, Tryd.ntmps12
    go_wp2_with fail
    refine H.out.mono ?_
    rintro e w1 ⟨c, rfl, hc, hb⟩
    have HF := Lib.hid (And.intro hc hb)
    clear hc hb H
    go_wp2
    go_ret
    exact ⟨ret_bool HF.out.1, HF.out.2⟩
  · have hb : ((n : Int) != (m : Int)) = true := by rw [bne_iff_ne]; omega
    have HR : Hid (decide ((n : Int) < (m : Int)) = r) := Lib.hid (by
      rw [HL.out, if_neg h, decide_eq_decide]; omega)
    clear HC HL h
    go_enter Tryd.func12, Tryd.ntmps12
    go_wp2
    go_ret
    exact ⟨ret_bool (by have := HR.out; simpa using this), Below.refl _ _⟩
end Go.Proofs.YtjknnbeemcpppaaDoor.Wk
