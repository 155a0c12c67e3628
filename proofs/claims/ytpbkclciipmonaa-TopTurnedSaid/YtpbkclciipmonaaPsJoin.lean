/-
  Contract of the editor's join, and of Del's function value. Not a statement of the seat.
-/
import Derived.Test.YtpbkclciipmonaaPsChg
import Derived.Test.YtpbkclciipmonaaPsClo
namespace Go.Proofs.Ytpbkclciipmonaa.F
open Go.ChangeShapes Go.WideShapes Go.ChangeAt Go.RowKit Go.Shelf Base
/-- What join's function value makes: the cell goes, what is to its right stays. -/
def popF : Tre → Tre
  | .nil => .nil
  | .node _ _ _ r => r
theorem popF_size (t : Tre) : (popF t).size ≤ t.size + 1 := by cases t <;> simp only [popF, Tre.size] <;> omega
theorem popF_k0 (t : Tre) (h : K0 t) : K0 (popF t) := by
  cases t with
  | nil => exact h
  | node => exact h.2.2
theorem pop_chg : ∀ {t : Tre}, K0 t → t ≠ .nil → Tre.chg popF 1 t = (Tre.pop t).2 ∧ ∃ r, subT 1 t = .node .nil 0 (Tre.pop t).1.v r
  | .nil, _, h => absurd rfl h
  | .node .nil k v r, hk, _ => by
    obtain ⟨rfl, _, _⟩ := hk
    exact ⟨by simp [Tre.chg, Tre.size, popF, Tre.pop], r, by simp [subT, Tre.size, Tre.pop]⟩
  | .node (.node a b c d) k v r, hk, _ => by
    have ih := pop_chg (t := .node a b c d) hk.2.1 (by simp)
    obtain ⟨rfl, _, _⟩ := hk
    have hs : (1 : Int) < 2 * ((Tre.node a b c d).size : Int) + 1 := by simp only [Tre.size]; omega
    rw [Tre.pop_node _ _ _ _ (by simp)]
    refine ⟨?_, ?_⟩
    · rw [Tre.chg, if_pos hs, ih.1]
    · rw [subT, if_pos hs]; exact ih.2
theorem tr_sub {zs : List Cel} : ∀ {t : Tre} {i : Int} (s : Int), Tr zs t i → ∃ j, Tr zs (subT s t) j
  | .nil, i, s, h => ⟨i, h⟩
  | .node l k v r, i, s, h => by
    have h0 := h
    obtain ⟨hi, a, b, hc, hl, hr⟩ := h
    rw [subT]
    split
    · exact tr_sub s hl
    · split
      · exact tr_sub _ hr
      · exact ⟨i, h0⟩
theorem k0_sub : ∀ {t : Tre} (s : Int), K0 t → K0 (subT s t)
  | .nil, s, h => h
  | .node l k v r, s, h => by
    rw [subT]
    split
    · exact k0_sub s h.2.1
    · split
      · exact k0_sub _ h.2.2
      · exact h
theorem chg_pop_size {t : Tre} (hk : K0 t) (h : t ≠ .nil) : (Tre.pop t).2.size ≤ t.size + 1 := by
  rw [← (pop_chg hk h).1]
  exact chg_size popF_size t 1
theorem chg_pop_k0 {t : Tre} (hk : K0 t) (h : t ≠ .nil) : K0 (Tre.pop t).2 := by
  rw [← (pop_chg hk h).1]
  exact chg_k0 popF_k0 t 1 hk
theorem join_node {l r : Tre} (hl : l ≠ .nil) (hr : r ≠ .nil) : Tre.join l r = Tre.lev l 0 (Tre.pop r).1.v (Tre.pop r).2 := by
  cases l with
  | nil => exact absurd rfl hl
  | node => cases r with
    | nil => exact absurd rfl hr
    | node => rfl
theorem tr_nz {zs : List Cel} {t : Tre} {i : Int} (h : Tr zs t i) (hn : t ≠ .nil) : (i == 0) = false := by
  cases t with
  | nil => exact absurd rfl hn
  | node => rw [beq_eq_false_iff_ne]; have := h.1; omega
section
variable {B : Nat} {a : Option Addr} {root had : Int} {room : Nat} {W0 : World} {O0 : Option Nat} {zs : List Cel}
theorem EOS.same {w : World} {o : Option Nat} {bs : List (Nat × Obj)} {t : Tre} {i : Int} (n : Nat) (h : EDS B (.pointer a) root had room W0 O0 w o zs 0 bs) (ht : Tr zs t i) : EOS B (.pointer a) root had room W0 O0 zs n t bs (.returned (.int .i64 i)) w :=
  ⟨(zs, 0, i), o, ⟨⟨[], by simp, .inl ⟨rfl, ht, by simp⟩⟩, fun e => by cases e⟩, h.1.2.le.1, rfl, h⟩
set_option maxRecDepth 100000 in
set_option maxHeartbeats 8000000 in
theorem ejoin {w : World} {o : Option Nat} {bs : List (Nat × Obj)} {l r : Tre} {x y : Int} (h : EDS B (.pointer a) root had room W0 O0 w o zs 0 bs) (hl : Tr zs l x) (hr : Tr zs r y) (kl : K0 l) (kr : K0 r) (h1 : l.size ≤ 500000) (h2 : r.size ≤ 500000) :
    Calls Try.prog 56 #[.pointer (some ⟨B, 0, none⟩), .int .i64 x, .int .i64 y] w (EOS B (.pointer a) root had room W0 O0 zs (3 * r.high + 3) (Tre.join l r) bs) := by
  by_cases hln : l = .nil
  · subst hln
    have HP := Lib.hid (EOS.same (3 * r.high + 3) h hr)
    rw [show Tre.join .nil r = r from rfl]
    generalize EOS B (.pointer a) root had room W0 O0 zs (3 * r.high + 3) r bs = Post at HP ⊢
    simp only [Tr] at hl
    subst hl
    clear h hr
    go_enter Try.func56, Try.ntmps56
    go_wp2_with fail
    exact HP.out
  have hx := tr_nz hl hln
  by_cases hrn : r = .nil
  · subst hrn
    have e : Tre.join l .nil = l := by cases l <;> rfl
    rw [e]
    have HP := Lib.hid (EOS.same (3 * Tre.nil.high + 3) h hl)
    generalize EOS B (.pointer a) root had room W0 O0 zs (3 * Tre.nil.high + 3) l bs = Post at HP ⊢
    simp only [Tr] at hr
    subst hr
    clear h hl
    go_enter Try.func56, Try.ntmps56
    go_wp2_with fail
    exact HP.out
  have hy := tr_nz hr hrn
  obtain ⟨hpc, r2, hsub⟩ := pop_chg kr hrn
  have HPS := Lib.hid (chg_pop_size kr hrn)
  have HPK := Lib.hid (chg_pop_k0 kr hrn)
  obtain ⟨jv, htv⟩ := tr_sub 1 hr
  rw [hsub] at htv
  obtain ⟨_, _, _, hcv, _⟩ := htv
  have hvb := celAt_ok h.1.2.oks jv
  rw [hcv] at hvb
  have J0 := Lib.hid (h.alloc (boxI 0))
  have HPL : Hid (∀ w, Calls Try.prog 54 #[.int .i64 0] w fun e w' => e = .returned (.int .i64 1) ∧ w = w') := Lib.hid fun w => psplace 0 w (by omega)
  have HCH : Hid (Calls Try.prog 49 #[.pointer (some ⟨B, 0, none⟩), .int .i64 y, .int .i64 1, .func (.func 78) #[] #[.pointer (some ⟨w.heap.size, 0, none⟩)]] (w.alloc (boxI 0)) (EOS B (.pointer a) root had room W0 O0 zs (3 * r.high + 0) (Tre.pop r).2 ((w.heap.size, boxI (Tre.pop r).1.v) :: bs))) := Lib.hid (by
    have := change_any (a := a) (root := root) (had := had) (room := room) (W0 := W0) (O0 := O0) 78 #[.pointer (some ⟨w.heap.size, 0, none⟩)] popF 0 popF_size popF_k0 (enters_of Try.func78 (by kernel_rfl) rfl) r 1 y _ o [] _ ((w.heap.size, boxI (Tre.pop r).1.v) :: bs) J0.out hr kr (by omega) (by omega) (fun ex w2 o2 j hh ht => by
      rw [hsub] at ht ⊢
      exact (join1_any w.heap.size hh ht).mono fun e w3 h3 => h3.mono (by omega))
    rw [hpc] at this
    exact this)
  rw [join_node hln hrn]
  have HL := Lib.hid hl
  have HKL := Lib.hid kl
  have HH := Lib.hid (hl.highA (by omega))
  generalize Tre.pop r = q at HPS HPK hvb HCH ⊢
  obtain ⟨p0, T⟩ := q
  dsimp only at HPS HPK hvb HCH ⊢
  have hv0 : -9223372036854775808 ≤ p0.v ∧ p0.v ≤ 9223372036854775807 := by unfold Cel.ok at hvb; simp only at hvb; omega
  generalize p0.v = v0 at HCH hv0 ⊢
  have hxr := hl.le
  obtain ⟨Post, hPost⟩ : ∃ P, P = EOS B (.pointer a) root had room W0 O0 zs (3 * r.high + 3) (Tre.lev l 0 v0 T) bs := ⟨_, rfl⟩
  have HP : Hid (∀ e w', EOS B (.pointer a) root had room W0 O0 zs (3 * r.high + 0 + 3) (Tre.lev l 0 v0 T) bs e w' → Post e w') := Lib.hid fun e w' h => by rw [hPost]; exact h
  rw [← hPost]
  clear hPost
  generalize 3 * r.high + 0 = n0 at HCH HP
  have hbx : w.alloc (boxI 0) = w.alloc (.cells #[.int .i64 0] 3) := rfl
  rw [hbx] at HCH
  clear hbx h hl hr kl kr hvb hcv hpc J0
  go_enter Try.func56, Try.ntmps56
  go_wp2_with fail
  refine (HPL.out _).mono ?_
  rintro e w1 ⟨rfl, rfl⟩
  go_wp2_with fail
  refine HCH.out.mono ?_
  rintro e w2 ⟨R, o2, hO, hlen, rfl, j2⟩
  have J2 := Lib.hid j2
  have hix := hO.1.idx
  have hzh := hO.high (by have := HPS.out; omega)
  have hoth : 0 ≤ (celAt R.1 x).h ∧ (celAt R.1 x).h ≤ 2000000 := by
    obtain ⟨⟨new, he, _⟩, _⟩ := hO
    rw [he]
    exact (HL.out.append new).highA (by omega)
  have HLV : Hid (∀ X o, EDI X B (.pointer a) o root had room R.1 R.2.1 → Calls Try.prog 76 #[.pointer (some ⟨B, 0, none⟩), .int .i64 x, .int .i64 v0, .int .i64 R.2.2] X (EDP B (.pointer a) o root had room (levelS room R.1 R.2.1 x v0 R.2.2).1 (levelS room R.1 R.2.1 x v0 R.2.2).2.1 (.int .i64 (levelS room R.1 R.2.1 x v0 R.2.2).2.2) X)) := Lib.hid fun X o h => elevel x v0 R.2.2 h (by omega) (by omega) hv0 hoth hzh
  have HOZ := Lib.hid (outZ_right (v := v0) hO HL.out HPK.out HKL.out (by have := HPS.out; omega) (by omega) hlen)
  obtain ⟨_, cf, _⟩ := cellsI (J2.out.at_ (List.mem_cons_self ..))
  clear hO hlen hix hzh hoth j2 HCH
  go_wp2_with fail
  refine (HLV.out _ _ J2.out.bi).mono ?_
  intro e w3 hs
  have HLN := Lib.hid hs.len
  obtain ⟨rfl, o3, J3⟩ := J2.out.call hs
  clear hs cf
  go_wp2_with fail
  exact HP.out _ _ ⟨_, o3, HOZ.out, HLN.out, rfl, EDS.tail J3.out⟩
end
end Go.Proofs.Ytpbkclciipmonaa.F
