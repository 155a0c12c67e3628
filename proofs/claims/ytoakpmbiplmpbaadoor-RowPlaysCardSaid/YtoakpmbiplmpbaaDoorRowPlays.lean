/-
  Proved: whatever lengths and deeds are handed in, RowPlays returns true, and the deeds read as they did. Conditions: the library's table of bit positions holds what its own text lays (the card ties it).
-/
import Derived.Test.YtoakpmbiplmpbaaDoorPlay5
import Derived.Deep.Slices
import Derived.Deep.Fields
import Derived.ChangeSame
namespace Go.Proofs.YtoakpmbiplmpbaaDoor.rowPlays
open Go.ChangeShapes Go.WideShapes Go.ChangeAt Go.RowKit Base Bits
/-- The slice v holds the deeds zs. -/
def Deeds (w : World) (v : Value) (zs : List (Int × Bool × Int × Bool)) : Prop :=
  ∃ p c, v = .slice p zs.length c ∧ zs.length ≤ 9223372036854775807 ∧ ∀ k, k < zs.length → ∃ g o, p = some ⟨g, o, none⟩ ∧ g < w.heap.size ∧ ∃ K D I N, zs.getD k (0, false, 0, false) = (K, D, I, N) ∧
    w.cell? ⟨g, o + k * 4, none⟩ = some (.int .i64 K) ∧ w.cell? ⟨g, o + k * 4 + 1, none⟩ = some (.bool D) ∧ w.cell? ⟨g, o + k * 4 + 2, none⟩ = some (.int .i64 I) ∧ w.cell? ⟨g, o + k * 4 + 3, none⟩ = some (.bool N)
set_option maxHeartbeats 20000000 in
set_option maxRecDepth 100000 in
theorem walk (n m : Int) (v : Value) (zs : List (Int × Bool × Int × Bool)) (w : World) (hi : Deeds w v zs) (hT : TabAt 0 Lib.deBruijn64tab w) :
    Calls Tryd.prog 3 #[.int .i64 n, .int .i64 m, v] w fun e w' => e = .returned (.bool true) ∧ Below w.heap.size w w' := by
  have hg := table_lt hT
  have HL := Lib.hid (fun (wx : World) (hb : Below w.heap.size w wx) => lives_any wx (tab_below hT hg hb) (Nat.lt_of_lt_of_le hg hb.size))
  have HT := Lib.hid hT
  have HG := Lib.hid hg
  obtain ⟨p, c, rfl, hl, hc⟩ := hi
  have HC := Lib.hid hc
  clear hT hg hc
  by_cases h1 : 60 < zs.length
  · have HL0 := Lib.hid (HL.out w (Below.refl _ _))
    clear HT HG HC HL
    go_enter Tryd.func3, Tryd.ntmps3
    go_wp2_with fail
    refine (HL0.out).mono ?_
    rintro e w1 ⟨rfl, hb⟩
    go_wp2
    go_ret
    exact ⟨rfl, hb⟩
  have h2 : zs.length ≤ 60 := by omega
  clear h1
  have HS1 := Lib.hid (fun wx => size_any n wx)
  have HS2 := Lib.hid (fun wx => size_any m wx)
  have HN1 := Lib.hid (fun wx => new_row n wx)
  have HN2 := Lib.hid (fun wx => new_row m wx)
  generalize Bits.rowLen n = N at HS1 HN1
  generalize Bits.rowLen m = M at HS2 HN2
  go_enter Tryd.func3, Tryd.ntmps3
  go_wp2_with fail
  refine (HN1.out _).mono ?_
  rintro e w1 ⟨ba, ga, rfl, hr, hb, hb1, hg1⟩
  have R1 := Lib.hid hr
  have B1 := Lib.hid hb
  have G1 := Lib.hid hg1
  clear hr hb hb1 hg1 HN1
  go_wp2_with fail
  refine (HN2.out _).mono ?_
  rintro e w2 ⟨bb, gb, rfl, hr, hb, hb1, hg1⟩
  have P0 : Hid (PI w w2 ba ga N 0 bb gb M 0 (.slice none 0 0) (.slice none 0 0)) := Lib.hid (by
    have hlt := heap_lt R1.out.2.1
    have hz := B1.out.size
    refine ⟨B1.out.trans (hb.mono hz), R1.out.below hb, hr, nil_ints rfl, nil_ints rfl, G1.out, by omega, by omega⟩)
  clear hr hb hb1 hg1 HN2 R1 B1 G1
  go_wp2_with fail
  go_loopw [7, 8, 9, 10, 37] (fun s7 s8 s9 s10 s37 wr => ∃ (k ba ga A bb gb B : Nat), s37 = .int .i64 k ∧ k ≤ zs.length ∧ s7 = .pointer (some ⟨ba, 0, none⟩) ∧ s8 = .pointer (some ⟨bb, 0, none⟩) ∧ Hid (PI w wr ba ga N A bb gb M B s9 s10)) (fun _ _ _ _ s37 _ => zs.length - (intOf s37).toNat)
  case atStart => exact ⟨0, ba, ga, 0, bb, gb, 0, rfl, Nat.zero_le _, rfl, rfl, P0⟩
  case round =>
    obtain ⟨k, ba, ga, A, bb, gb, B, rfl, hk, rfl, rfl, HP⟩ := hrel
    by_cases hlt : k < zs.length
    · obtain ⟨g', o', rfl, hg', K, other, I, on, _, c0, c1, c2, c3⟩ := HC.out k hlt
      have c0 := (HP.out.1.cell (p := ⟨g', o' + k * 4, none⟩) hg').trans c0
      have c1 := (HP.out.1.cell (p := ⟨g', o' + k * 4 + 1, none⟩) hg').trans c1
      have c2 := (HP.out.1.cell (p := ⟨g', o' + k * 4 + 2, none⟩) hg').trans c2
      have c3 := (HP.out.1.cell (p := ⟨g', o' + k * 4 + 3, none⟩) hg').trans c3
      clear hg'
      cases other
      · have P1 := Lib.hid (HP.out.alloc (.cells #[.int .i64 K, .bool false, .int .i64 I, .bool on] 28))
        have hbox : (wr.alloc (.cells #[.int .i64 K, .bool false, .int .i64 I, .bool on] 28)).heap[wr.heap.size]? = some (.cells #[.int .i64 K, .bool false, .int .i64 I, .bool on] 28) := heap_alloc_at _ _ _ rfl
        have HX := Lib.hid hbox
        clear hbox
        go_wp2_with fail
        refine (does_any ba ga N A bb gb M B _ _ K false I on _ P1.out.2.1 P1.out.2.2.1 P1.out.2.2.2.1 P1.out.2.2.2.2.1 (fun e => P1.out.2.2.2.2.2.2.2 e.symm)).mono ?_
        intro e w3 hD
        obtain ⟨b', g2, V', x', res, he, hPI, hgr⟩ := P1.out.turn hD
        subst he
        have hgl := HP.out.own_lt
        have P2 := Lib.hid hPI
        have hne : wr.heap.size ≠ ga := by omega
        have hbx := (hgr.block wr.heap.size (heap_lt HX.out) (fun e => hne (Option.some.inj e))).trans HX.out
        obtain ⟨d0, d1, d2, d3⟩ := box4 hbx
        have hrr : (res != res) = false := by cases res <;> rfl
        clear hD hPI hgr hgl hne hbx P1 HX c0 c1 c2 c3 HP d0 d1 d3
        go_wp2_with fail
        skip
        by_cases hnm : N = M
        · subst hnm
          have hsr : sameR N V' N B = decide (intsOf N V' = intsOf N B) := by unfold sameR; rw [if_pos rfl]
          have HSR := Lib.hid hsr
          clear hsr
          go_region_held3 (fun w' => w'.cell? ⟨wr.heap.size, 2, none⟩ = some (.int .i64 I) ∧ Hid (PI w w' b' g2 N V' bb gb N B x' u10))
            (first | assumption | exact pi_start P2 d2 | exact pi_keep (by assumption) (by assumption))
            ((first
              | (go_at_call 13; ((with_reducible refine (HS1.out _).mono ?_); rintro e x ⟨rfl, rfl⟩))
              | (go_at_call 13; ((with_reducible refine (HS2.out _).mono ?_); rintro e x ⟨rfl, rfl⟩))
              | (go_at_call 12; ((with_reducible refine ((held_pi (B := PI w _ b' g2 N V' bb gb N B x' u10) (by assumption)).tellsA HT.out HG.out I).mono ?_); rintro e w4 ⟨rfl, hb4⟩))
              | (go_at_call 12; ((with_reducible refine ((held_pi (B := PI w _ b' g2 N V' bb gb N B x' u10) (by assumption)).tellsB HT.out HG.out I).mono ?_); rintro e w5 ⟨rfl, hb5⟩))
              | (go_at_call 14; ((with_reducible refine ((held_pi (B := PI w _ b' g2 N V' bb gb N B x' u10) (by assumption)).same).mono ?_); rw [HSR.out]; rintro e w6 ⟨rfl, hb6⟩))
              | (go_at_call 15; ((with_reducible refine ((held_pi (B := PI w _ b' g2 N V' bb gb N B x' u10) (by assumption)).lenA).mono ?_); rintro e x ⟨rfl, rfl⟩))
              | (go_at_call 15; ((with_reducible refine ((held_pi (B := PI w _ b' g2 N V' bb gb N B x' u10) (by assumption)).lenB).mono ?_); rintro e x ⟨rfl, rfl⟩))
              | (go_at_call 16; ((with_reducible refine ((held_pi (B := PI w _ b' g2 N V' bb gb N B x' u10) (by assumption)).ints).mono ?_); rintro e w7 ⟨rfl, hb7⟩))))
          clear d2 hrr
          go_wp2_with fail
          go_roundw
          case rel => exact ⟨k + 1, b', g2, V', bb, gb, B, by go_num, by omega, rfl, rfl, Lib.hid (held_pi (B := PI w _ b' g2 N V' bb gb N B x' u10) (by assumption))⟩
          case measure => simp [intOf]; omega
        · have hne2 : ((N : Int) == (M : Int)) = false := by rw [beq_eq_false_iff_ne]; omega
          have hsr : sameR N V' M B = false := by unfold sameR; rw [if_neg hnm]
          have HSR := Lib.hid hsr
          have hne3 : decide (N = M) = false := decide_eq_false hnm
          have hne4 : decide ((N : Int) = (M : Int)) = false := decide_eq_false (by omega)
          have hne5 : (N == M) = false := by rw [beq_eq_false_iff_ne]; exact hnm
          clear hsr
          refine wp_region_held_drew (S := fun w' => w'.cell? ⟨wr.heap.size, 2, none⟩ = some (.int .i64 I) ∧ Hid (PI w w' b' g2 N V' bb gb M B x' u10)) (by kernel_rfl) (pi_start P2 d2) (fun hHeldZ => ?_)
          refine wpAnyH_take (i := 0) (v := ?_) rfl (by kernel_rfl) (by kernel_rfl) (by kernel_rfl) (fun _ _ _ h => h) (Or.inl ⟨by rfl, ?yf0⟩) (by assumption) ?rf0
          case yf0 => (intro wz hSw; (try dsimp only at hSw); go_simp <;> with_reducible rfl)
          simp only [Act.put, List.getElem_toArray, List.getElem_cons_zero, List.setIfInBounds_toArray, List.set_cons_zero, List.set_cons_succ]
          refine wpAnyH_take (i := 1) (v := ?_) rfl (by kernel_rfl) (by kernel_rfl) (by kernel_rfl) (fun _ _ _ h => h) (Or.inl ⟨by rfl, ?yf1⟩) (by assumption) ?rf1
          case yf1 => (intro wz hSw; (try dsimp only at hSw); go_simp <;> with_reducible rfl)
          simp only [Act.put, List.getElem_toArray, List.getElem_cons_zero, List.getElem_cons_succ, List.setIfInBounds_toArray, List.set_cons_zero, List.set_cons_succ]
          refine wpAnyH_take (i := 3) (v := ?_) rfl (by kernel_rfl) (by kernel_rfl) (by kernel_rfl) (fun _ _ _ h => h) (Or.inl ⟨by rfl, ?yf3⟩) (by assumption) ?rf3
          case yf3 => (intro wz hSw; (try dsimp only at hSw); go_simp <;> with_reducible rfl)
          simp only [Act.put, List.getElem_toArray, List.getElem_cons_zero, List.getElem_cons_succ, List.setIfInBounds_toArray, List.set_cons_zero, List.set_cons_succ]
          refine wpAnyH_take (i := 4) (v := ?_) rfl (by kernel_rfl) (by kernel_rfl) (by kernel_rfl) (fun _ _ _ h => h) (Or.inl ⟨by rfl, ?yf4⟩) (by assumption) ?rf4
          case yf4 => (intro wz hSw; (try dsimp only at hSw); go_simp <;> with_reducible rfl)
          simp only [Act.put, List.getElem_toArray, List.getElem_cons_zero, List.getElem_cons_succ, List.setIfInBounds_toArray, List.set_cons_zero, List.set_cons_succ]
          refine wpAnyH_take (i := 5) (v := ?_) rfl (by kernel_rfl) (by kernel_rfl) (by kernel_rfl) (fun _ _ _ h => h) (Or.inl ⟨by rfl, ?yf5⟩) (by assumption) ?rf5
          case yf5 => (intro wz hSw; (try dsimp only at hSw); go_simp <;> with_reducible rfl)
          simp only [Act.put, List.getElem_toArray, List.getElem_cons_zero, List.getElem_cons_succ, List.setIfInBounds_toArray, List.set_cons_zero, List.set_cons_succ]
          refine wpAnyH_ready (rs := [2]) (by kernel_rfl) (by simp) ?_
          refine AllReadyH.cons rfl (fun K hK => ?_) AllReadyH.nil
          go_simp
          ((with_reducible refine (HS1.out _).mono ?_); rintro e x ⟨rfl, rfl⟩)
          (try go_wp2_with fail)
          refine hK.out _ _ (by assumption) (fun hHeld2 => ?_)
          clear hK K
          (try simp only [Act.put, List.getElem_toArray, List.getElem_cons_zero, List.getElem_cons_succ, List.setIfInBounds_toArray, List.set_cons_zero, List.set_cons_succ])
          refine wpAnyH_ready (rs := [6]) (by kernel_rfl) (by simp) ?_
          refine AllReadyH.cons rfl (fun K hK => ?_) AllReadyH.nil
          go_simp
          ((with_reducible refine ((held_pi (B := PI w _ b' g2 N V' bb gb M B x' u10) (by assumption)).tellsA HT.out HG.out I).mono ?_); rintro e w4 ⟨rfl, hb4⟩)
          (try go_wp2_with fail)
          refine hK.out _ _ (pi_keep (by assumption) hb4) (fun hHeld6 => ?_)
          clear hK K
          (try simp only [Act.put, List.getElem_toArray, List.getElem_cons_zero, List.getElem_cons_succ, List.setIfInBounds_toArray, List.set_cons_zero, List.set_cons_succ])
          clear hHeldZ hHeld2
          refine wpAnyH_take (i := 7) (v := ?_) rfl (by kernel_rfl) (by kernel_rfl) (by kernel_rfl) (fun _ _ _ h => h) (Or.inl ⟨by rfl, ?yf7⟩) (by assumption) ?rf7
          case yf7 => (intro wz hSw; (try dsimp only at hSw); go_simp <;> with_reducible rfl)
          simp only [Act.put, List.getElem_toArray, List.getElem_cons_zero, List.getElem_cons_succ, List.setIfInBounds_toArray, List.set_cons_zero, List.set_cons_succ]
          refine wpAnyH_take (i := 8) (v := ?_) rfl (by kernel_rfl) (by kernel_rfl) (by kernel_rfl) (fun _ _ _ h => h) (Or.inl ⟨by rfl, ?yf8⟩) (by assumption) ?rf8
          case yf8 => (intro wz hSw; (try dsimp only at hSw); go_simp <;> with_reducible rfl)
          simp only [Act.put, List.getElem_toArray, List.getElem_cons_zero, List.getElem_cons_succ, List.setIfInBounds_toArray, List.set_cons_zero, List.set_cons_succ]
          refine wpAnyH_take (i := 9) (v := ?_) rfl (by kernel_rfl) (by kernel_rfl) (by kernel_rfl) (fun _ _ _ h => h) (Or.inl ⟨by rfl, ?yf9⟩) (by assumption) ?rf9
          case yf9 => (intro wz hSw; (try dsimp only at hSw); go_simp <;> with_reducible rfl)
          simp only [Act.put, List.getElem_toArray, List.getElem_cons_zero, List.getElem_cons_succ, List.setIfInBounds_toArray, List.set_cons_zero, List.set_cons_succ]
          refine wpAnyH_take (i := 10) (v := ?_) rfl (by kernel_rfl) (by kernel_rfl) (by kernel_rfl) (fun _ _ _ h => h) (Or.inl ⟨by rfl, ?yf10⟩) (by assumption) ?rf10
          case yf10 => (intro wz hSw; (try dsimp only at hSw); go_simp <;> with_reducible rfl)
          simp only [Act.put, List.getElem_toArray, List.getElem_cons_zero, List.getElem_cons_succ, List.setIfInBounds_toArray, List.set_cons_zero, List.set_cons_succ]
          refine wpAnyH_take (i := 12) (v := ?_) rfl (by kernel_rfl) (by kernel_rfl) (by kernel_rfl) (fun _ _ _ h => h) (Or.inl ⟨by rfl, ?yf12⟩) (by assumption) ?rf12
          case yf12 => (intro wz hSw; (try dsimp only at hSw); go_simp <;> with_reducible rfl)
          simp only [Act.put, List.getElem_toArray, List.getElem_cons_zero, List.getElem_cons_succ, List.setIfInBounds_toArray, List.set_cons_zero, List.set_cons_succ]
          refine wpAnyH_take (i := 13) (v := ?_) rfl (by kernel_rfl) (by kernel_rfl) (by kernel_rfl) (fun _ _ _ h => h) (Or.inl ⟨by rfl, ?yf13⟩) (by assumption) ?rf13
          case yf13 => (intro wz hSw; (try dsimp only at hSw); go_simp <;> with_reducible rfl)
          simp only [Act.put, List.getElem_toArray, List.getElem_cons_zero, List.getElem_cons_succ, List.setIfInBounds_toArray, List.set_cons_zero, List.set_cons_succ]
          refine wpAnyH_take (i := 14) (v := ?_) rfl (by kernel_rfl) (by kernel_rfl) (by kernel_rfl) (fun _ _ _ h => h) (Or.inl ⟨by rfl, ?yf14⟩) (by assumption) ?rf14
          case yf14 => (intro wz hSw; (try dsimp only at hSw); go_simp <;> with_reducible rfl)
          simp only [Act.put, List.getElem_toArray, List.getElem_cons_zero, List.getElem_cons_succ, List.setIfInBounds_toArray, List.set_cons_zero, List.set_cons_succ]
          refine wpAnyH_ready (rs := [11]) (by kernel_rfl) (by simp) ?_
          refine AllReadyH.cons rfl (fun K hK => ?_) AllReadyH.nil
          go_simp
          ((with_reducible refine (HS2.out _).mono ?_); rintro e x ⟨rfl, rfl⟩)
          (try go_wp2_with fail)
          refine hK.out _ _ (by assumption) (fun hHeld11 => ?_)
          clear hK K
          (try simp only [Act.put, List.getElem_toArray, List.getElem_cons_zero, List.getElem_cons_succ, List.setIfInBounds_toArray, List.set_cons_zero, List.set_cons_succ])
          refine wpAnyH_ready (rs := [15]) (by kernel_rfl) (by simp) ?_
          refine AllReadyH.cons rfl (fun K hK => ?_) AllReadyH.nil
          go_simp
          ((with_reducible refine ((held_pi (B := PI w _ b' g2 N V' bb gb M B x' u10) (by assumption)).tellsB HT.out HG.out I).mono ?_); rintro e w5 ⟨rfl, hb5⟩)
          (try go_wp2_with fail)
          refine hK.out _ _ (pi_keep (by assumption) hb5) (fun hHeld15 => ?_)
          clear hK K
          (try simp only [Act.put, List.getElem_toArray, List.getElem_cons_zero, List.getElem_cons_succ, List.setIfInBounds_toArray, List.set_cons_zero, List.set_cons_succ])
          clear hHeld6 hHeld11
          refine wpAnyH_take (i := 16) (v := ?_) rfl (by kernel_rfl) (by kernel_rfl) (by kernel_rfl) (fun _ _ _ h => h) (Or.inl ⟨by rfl, ?yf16⟩) (by assumption) ?rf16
          case yf16 => (intro wz hSw; (try dsimp only at hSw); go_simp <;> with_reducible rfl)
          simp only [Act.put, List.getElem_toArray, List.getElem_cons_zero, List.getElem_cons_succ, List.setIfInBounds_toArray, List.set_cons_zero, List.set_cons_succ]
          refine wpAnyH_take (i := 17) (v := ?_) rfl (by kernel_rfl) (by kernel_rfl) (by kernel_rfl) (fun _ _ _ h => h) (Or.inl ⟨by rfl, ?yf17⟩) (by assumption) ?rf17
          case yf17 => (intro wz hSw; (try dsimp only at hSw); go_simp <;> with_reducible rfl)
          simp only [Act.put, List.getElem_toArray, List.getElem_cons_zero, List.getElem_cons_succ, List.setIfInBounds_toArray, List.set_cons_zero, List.set_cons_succ]
          refine wpAnyH_take (i := 18) (v := ?_) rfl (by kernel_rfl) (by kernel_rfl) (by kernel_rfl) (fun _ _ _ h => h) (Or.inl ⟨by rfl, ?yf18⟩) (by assumption) ?rf18
          case yf18 => (intro wz hSw; (try dsimp only at hSw); go_simp <;> with_reducible rfl)
          simp only [Act.put, List.getElem_toArray, List.getElem_cons_zero, List.getElem_cons_succ, List.setIfInBounds_toArray, List.set_cons_zero, List.set_cons_succ]
          refine wpAnyH_take (i := 19) (v := ?_) rfl (by kernel_rfl) (by kernel_rfl) (by kernel_rfl) (fun _ _ _ h => h) (Or.inl ⟨by rfl, ?yf19⟩) (by assumption) ?rf19
          case yf19 => (intro wz hSw; (try dsimp only at hSw); go_simp <;> with_reducible rfl)
          simp only [Act.put, List.getElem_toArray, List.getElem_cons_zero, List.getElem_cons_succ, List.setIfInBounds_toArray, List.set_cons_zero, List.set_cons_succ]
          refine wpAnyH_take (i := 20) (v := ?_) rfl (by kernel_rfl) (by kernel_rfl) (by kernel_rfl) (fun _ _ _ h => h) (Or.inl ⟨by rfl, ?yf20⟩) (by assumption) ?rf20
          case yf20 => (intro wz hSw; (try dsimp only at hSw); go_simp <;> with_reducible rfl)
          simp only [Act.put, List.getElem_toArray, List.getElem_cons_zero, List.getElem_cons_succ, List.setIfInBounds_toArray, List.set_cons_zero, List.set_cons_succ]
          refine wpAnyH_take (i := 22) (v := ?_) rfl (by kernel_rfl) (by kernel_rfl) (by kernel_rfl) (fun _ _ _ h => h) (Or.inl ⟨by rfl, ?yf22⟩) (by assumption) ?rf22
          case yf22 => (intro wz hSw; (try dsimp only at hSw); go_simp <;> with_reducible rfl)
          simp only [Act.put, List.getElem_toArray, List.getElem_cons_zero, List.getElem_cons_succ, List.setIfInBounds_toArray, List.set_cons_zero, List.set_cons_succ]
          refine wpAnyH_take (i := 24) (v := ?_) rfl (by kernel_rfl) (by kernel_rfl) (by kernel_rfl) (fun _ _ _ h => h) (Or.inl ⟨by rfl, ?yf24⟩) (by assumption) ?rf24
          case yf24 => (intro wz hSw; (try dsimp only at hSw); go_simp <;> with_reducible rfl)
          simp only [Act.put, List.getElem_toArray, List.getElem_cons_zero, List.getElem_cons_succ, List.setIfInBounds_toArray, List.set_cons_zero, List.set_cons_succ]
          refine wpAnyH_ready (rs := [21]) (by kernel_rfl) (by simp) ?_
          refine AllReadyH.cons rfl (fun K hK => ?_) AllReadyH.nil
          go_simp
          ((with_reducible refine ((held_pi (B := PI w _ b' g2 N V' bb gb M B x' u10) (by assumption)).same).mono ?_); rw [HSR.out]; rintro e w6 ⟨rfl, hb6⟩)
          (try go_wp2_with fail)
          refine hK.out _ _ (pi_keep (by assumption) hb6) (fun hHeld21 => ?_)
          clear hK K
          (try simp only [Act.put, List.getElem_toArray, List.getElem_cons_zero, List.getElem_cons_succ, List.setIfInBounds_toArray, List.set_cons_zero, List.set_cons_succ])
          clear hHeld15
          refine wpAnyH_ready (rs := [23]) (by kernel_rfl) (by simp) ?_
          refine AllReadyH.cons rfl (fun K hK => ?_) AllReadyH.nil
          go_simp
          ((with_reducible refine ((held_pi (B := PI w _ b' g2 N V' bb gb M B x' u10) (by assumption)).lenA).mono ?_); rintro e x ⟨rfl, rfl⟩)
          (try go_wp2_with fail)
          refine hK.out _ _ (by assumption) (fun hHeld23 => ?_)
          clear hK K
          (try simp only [Act.put, List.getElem_toArray, List.getElem_cons_zero, List.getElem_cons_succ, List.setIfInBounds_toArray, List.set_cons_zero, List.set_cons_succ])
          refine wpAnyH_ready (rs := [25]) (by kernel_rfl) (by simp) ?_
          refine AllReadyH.cons rfl (fun K hK => ?_) AllReadyH.nil
          go_simp
          ((with_reducible refine ((held_pi (B := PI w _ b' g2 N V' bb gb M B x' u10) (by assumption)).lenB).mono ?_); rintro e x ⟨rfl, rfl⟩)
          (try go_wp2_with fail)
          refine hK.out _ _ (by assumption) (fun hHeld25 => ?_)
          clear hK K
          (try simp only [Act.put, List.getElem_toArray, List.getElem_cons_zero, List.getElem_cons_succ, List.setIfInBounds_toArray, List.set_cons_zero, List.set_cons_succ])
          refine wpAnyH_take (i := 26) (v := ?_) rfl (by kernel_rfl) (by kernel_rfl) (by kernel_rfl) (fun _ _ _ h => h) (Or.inl ⟨by rfl, ?yf26⟩) (by assumption) ?rf26
          case yf26 => (intro wz hSw; (try dsimp only at hSw); go_simp <;> with_reducible rfl)
          simp only [Act.put, List.getElem_toArray, List.getElem_cons_zero, List.getElem_cons_succ, List.setIfInBounds_toArray, List.set_cons_zero, List.set_cons_succ]
          refine wpAnyH_take (i := 27) (v := ?_) rfl (by kernel_rfl) (by kernel_rfl) (by kernel_rfl) (fun _ _ _ h => h) (Or.inl ⟨by rfl, ?yf27⟩) (by assumption) ?rf27
          case yf27 => (intro wz hSw; (try dsimp only at hSw); go_simp <;> with_reducible rfl)
          simp only [Act.put, List.getElem_toArray, List.getElem_cons_zero, List.getElem_cons_succ, List.setIfInBounds_toArray, List.set_cons_zero, List.set_cons_succ]
          refine wpAnyH_take (i := 28) (v := undef) rfl (by kernel_rfl) (by kernel_rfl) (by kernel_rfl) (fun _ _ _ h => h) (Or.inr ⟨by rfl, rfl⟩) (by assumption) ?_
          simp only [Act.put, List.getElem_toArray, List.getElem_cons_zero, List.getElem_cons_succ, List.setIfInBounds_toArray, List.set_cons_zero, List.set_cons_succ]
          refine wpAnyH_take (i := 29) (v := undef) rfl (by kernel_rfl) (by kernel_rfl) (by kernel_rfl) (fun _ _ _ h => h) (Or.inr ⟨by rfl, rfl⟩) (by assumption) ?_
          simp only [Act.put, List.getElem_toArray, List.getElem_cons_zero, List.getElem_cons_succ, List.setIfInBounds_toArray, List.set_cons_zero, List.set_cons_succ]
          refine wpAnyH_take (i := 30) (v := undef) rfl (by kernel_rfl) (by kernel_rfl) (by kernel_rfl) (fun _ _ _ h => h) (Or.inr ⟨by rfl, rfl⟩) (by assumption) ?_
          simp only [Act.put, List.getElem_toArray, List.getElem_cons_zero, List.getElem_cons_succ, List.setIfInBounds_toArray, List.set_cons_zero, List.set_cons_succ]
          refine wpAnyH_take (i := 31) (v := ?_) rfl (by kernel_rfl) (by kernel_rfl) (by kernel_rfl) (fun _ _ _ h => h) (Or.inl ⟨by rfl, ?yf31⟩) (by assumption) ?rf31
          case yf31 => (intro wz hSw; (try dsimp only at hSw); go_simp <;> with_reducible rfl)
          simp only [Act.put, List.getElem_toArray, List.getElem_cons_zero, List.getElem_cons_succ, List.setIfInBounds_toArray, List.set_cons_zero, List.set_cons_succ]
          refine wpAnyH_take (i := 32) (v := ?_) rfl (by kernel_rfl) (by kernel_rfl) (by kernel_rfl) (fun _ _ _ h => h) (Or.inl ⟨by rfl, ?yf32⟩) (by assumption) ?rf32
          case yf32 => (intro wz hSw; (try dsimp only at hSw); go_simp <;> with_reducible rfl)
          simp only [Act.put, List.getElem_toArray, List.getElem_cons_zero, List.getElem_cons_succ, List.setIfInBounds_toArray, List.set_cons_zero, List.set_cons_succ]
          refine wpAnyH_take (i := 33) (v := ?_) rfl (by kernel_rfl) (by kernel_rfl) (by kernel_rfl) (fun _ _ _ h => h) (Or.inl ⟨by rfl, ?yf33⟩) (by assumption) ?rf33
          case yf33 => (intro wz hSw; (try dsimp only at hSw); go_simp <;> with_reducible rfl)
          simp only [Act.put, List.getElem_toArray, List.getElem_cons_zero, List.getElem_cons_succ, List.setIfInBounds_toArray, List.set_cons_zero, List.set_cons_succ]
          refine wpAnyH_done (by kernel_rfl) ?_ _
          all_goals
            clear d2 hrr hne2 hne3 hne4 hne5
            go_wp2_with fail
            go_roundw
            case rel => exact ⟨k + 1, b', g2, V', bb, gb, B, by go_num, by omega, rfl, rfl, Lib.hid (held_pi (B := PI w _ b' g2 N V' bb gb M B x' u10) (by assumption))⟩
            case measure => simp [intOf]; omega
      · have P1 := Lib.hid (HP.out.alloc (.cells #[.int .i64 K, .bool true, .int .i64 I, .bool on] 28))
        have hbox : (wr.alloc (.cells #[.int .i64 K, .bool true, .int .i64 I, .bool on] 28)).heap[wr.heap.size]? = some (.cells #[.int .i64 K, .bool true, .int .i64 I, .bool on] 28) := heap_alloc_at _ _ _ rfl
        have HX := Lib.hid hbox
        clear hbox
        go_wp2_with fail
        refine (does_any bb gb M B ba ga N A _ _ K true I on _ P1.out.2.2.1 P1.out.2.1 P1.out.2.2.2.2.1 P1.out.2.2.2.1 P1.out.2.2.2.2.2.2.2).mono ?_
        intro e w3 hD
        obtain ⟨b', g2, V', x', res, he, hPI, hgr⟩ := P1.out.swap.turn hD
        subst he
        have hgl := HP.out.swap.own_lt
        have P2 := Lib.hid hPI.swap
        have hne : wr.heap.size ≠ gb := by omega
        have hbx := (hgr.block wr.heap.size (heap_lt HX.out) (fun e => hne (Option.some.inj e))).trans HX.out
        obtain ⟨d0, d1, d2, d3⟩ := box4 hbx
        have hrr : (res != res) = false := by cases res <;> rfl
        clear hD hPI hgr hgl hne hbx P1 HX c0 c1 c2 c3 HP d0 d1 d3
        go_wp2_with fail
        skip
        by_cases hnm : N = M
        · subst hnm
          have hsr : sameR N A N V' = decide (intsOf N A = intsOf N V') := by unfold sameR; rw [if_pos rfl]
          have HSR := Lib.hid hsr
          clear hsr
          go_region_held3 (fun w' => w'.cell? ⟨wr.heap.size, 2, none⟩ = some (.int .i64 I) ∧ Hid (PI w w' ba ga N A b' g2 N V' u9 x'))
            (first | assumption | exact pi_start P2 d2 | exact pi_keep (by assumption) (by assumption))
            ((first
              | (go_at_call 13; ((with_reducible refine (HS1.out _).mono ?_); rintro e x ⟨rfl, rfl⟩))
              | (go_at_call 13; ((with_reducible refine (HS2.out _).mono ?_); rintro e x ⟨rfl, rfl⟩))
              | (go_at_call 12; ((with_reducible refine ((held_pi (B := PI w _ ba ga N A b' g2 N V' u9 x') (by assumption)).tellsA HT.out HG.out I).mono ?_); rintro e w4 ⟨rfl, hb4⟩))
              | (go_at_call 12; ((with_reducible refine ((held_pi (B := PI w _ ba ga N A b' g2 N V' u9 x') (by assumption)).tellsB HT.out HG.out I).mono ?_); rintro e w5 ⟨rfl, hb5⟩))
              | (go_at_call 14; ((with_reducible refine ((held_pi (B := PI w _ ba ga N A b' g2 N V' u9 x') (by assumption)).same).mono ?_); rw [HSR.out]; rintro e w6 ⟨rfl, hb6⟩))
              | (go_at_call 15; ((with_reducible refine ((held_pi (B := PI w _ ba ga N A b' g2 N V' u9 x') (by assumption)).lenA).mono ?_); rintro e x ⟨rfl, rfl⟩))
              | (go_at_call 15; ((with_reducible refine ((held_pi (B := PI w _ ba ga N A b' g2 N V' u9 x') (by assumption)).lenB).mono ?_); rintro e x ⟨rfl, rfl⟩))
              | (go_at_call 16; ((with_reducible refine ((held_pi (B := PI w _ ba ga N A b' g2 N V' u9 x') (by assumption)).ints).mono ?_); rintro e w7 ⟨rfl, hb7⟩))))
          clear d2 hrr
          go_wp2_with fail
          go_roundw
          case rel => exact ⟨k + 1, ba, ga, A, b', g2, V', by go_num, by omega, rfl, rfl, Lib.hid (held_pi (B := PI w _ ba ga N A b' g2 N V' u9 x') (by assumption))⟩
          case measure => simp [intOf]; omega
        · have hne2 : ((N : Int) == (M : Int)) = false := by rw [beq_eq_false_iff_ne]; omega
          have hsr : sameR N A M V' = false := by unfold sameR; rw [if_neg hnm]
          have HSR := Lib.hid hsr
          have hne3 : decide (N = M) = false := decide_eq_false hnm
          have hne4 : decide ((N : Int) = (M : Int)) = false := decide_eq_false (by omega)
          have hne5 : (N == M) = false := by rw [beq_eq_false_iff_ne]; exact hnm
          clear hsr
          refine wp_region_held_drew (S := fun w' => w'.cell? ⟨wr.heap.size, 2, none⟩ = some (.int .i64 I) ∧ Hid (PI w w' ba ga N A b' g2 M V' u9 x')) (by kernel_rfl) (pi_start P2 d2) (fun hHeldZ => ?_)
          refine wpAnyH_take (i := 0) (v := ?_) rfl (by kernel_rfl) (by kernel_rfl) (by kernel_rfl) (fun _ _ _ h => h) (Or.inl ⟨by rfl, ?yt0⟩) (by assumption) ?rt0
          case yt0 => (intro wz hSw; (try dsimp only at hSw); go_simp <;> with_reducible rfl)
          simp only [Act.put, List.getElem_toArray, List.getElem_cons_zero, List.setIfInBounds_toArray, List.set_cons_zero, List.set_cons_succ]
          refine wpAnyH_take (i := 1) (v := ?_) rfl (by kernel_rfl) (by kernel_rfl) (by kernel_rfl) (fun _ _ _ h => h) (Or.inl ⟨by rfl, ?yt1⟩) (by assumption) ?rt1
          case yt1 => (intro wz hSw; (try dsimp only at hSw); go_simp <;> with_reducible rfl)
          simp only [Act.put, List.getElem_toArray, List.getElem_cons_zero, List.getElem_cons_succ, List.setIfInBounds_toArray, List.set_cons_zero, List.set_cons_succ]
          refine wpAnyH_take (i := 3) (v := ?_) rfl (by kernel_rfl) (by kernel_rfl) (by kernel_rfl) (fun _ _ _ h => h) (Or.inl ⟨by rfl, ?yt3⟩) (by assumption) ?rt3
          case yt3 => (intro wz hSw; (try dsimp only at hSw); go_simp <;> with_reducible rfl)
          simp only [Act.put, List.getElem_toArray, List.getElem_cons_zero, List.getElem_cons_succ, List.setIfInBounds_toArray, List.set_cons_zero, List.set_cons_succ]
          refine wpAnyH_take (i := 4) (v := ?_) rfl (by kernel_rfl) (by kernel_rfl) (by kernel_rfl) (fun _ _ _ h => h) (Or.inl ⟨by rfl, ?yt4⟩) (by assumption) ?rt4
          case yt4 => (intro wz hSw; (try dsimp only at hSw); go_simp <;> with_reducible rfl)
          simp only [Act.put, List.getElem_toArray, List.getElem_cons_zero, List.getElem_cons_succ, List.setIfInBounds_toArray, List.set_cons_zero, List.set_cons_succ]
          refine wpAnyH_take (i := 5) (v := ?_) rfl (by kernel_rfl) (by kernel_rfl) (by kernel_rfl) (fun _ _ _ h => h) (Or.inl ⟨by rfl, ?yt5⟩) (by assumption) ?rt5
          case yt5 => (intro wz hSw; (try dsimp only at hSw); go_simp <;> with_reducible rfl)
          simp only [Act.put, List.getElem_toArray, List.getElem_cons_zero, List.getElem_cons_succ, List.setIfInBounds_toArray, List.set_cons_zero, List.set_cons_succ]
          refine wpAnyH_ready (rs := [2]) (by kernel_rfl) (by simp) ?_
          refine AllReadyH.cons rfl (fun K hK => ?_) AllReadyH.nil
          go_simp
          ((with_reducible refine (HS1.out _).mono ?_); rintro e x ⟨rfl, rfl⟩)
          (try go_wp2_with fail)
          refine hK.out _ _ (by assumption) (fun hHeld2 => ?_)
          clear hK K
          (try simp only [Act.put, List.getElem_toArray, List.getElem_cons_zero, List.getElem_cons_succ, List.setIfInBounds_toArray, List.set_cons_zero, List.set_cons_succ])
          refine wpAnyH_ready (rs := [6]) (by kernel_rfl) (by simp) ?_
          refine AllReadyH.cons rfl (fun K hK => ?_) AllReadyH.nil
          go_simp
          ((with_reducible refine ((held_pi (B := PI w _ ba ga N A b' g2 M V' u9 x') (by assumption)).tellsA HT.out HG.out I).mono ?_); rintro e w4 ⟨rfl, hb4⟩)
          (try go_wp2_with fail)
          refine hK.out _ _ (pi_keep (by assumption) hb4) (fun hHeld6 => ?_)
          clear hK K
          (try simp only [Act.put, List.getElem_toArray, List.getElem_cons_zero, List.getElem_cons_succ, List.setIfInBounds_toArray, List.set_cons_zero, List.set_cons_succ])
          clear hHeldZ hHeld2
          refine wpAnyH_take (i := 7) (v := ?_) rfl (by kernel_rfl) (by kernel_rfl) (by kernel_rfl) (fun _ _ _ h => h) (Or.inl ⟨by rfl, ?yt7⟩) (by assumption) ?rt7
          case yt7 => (intro wz hSw; (try dsimp only at hSw); go_simp <;> with_reducible rfl)
          simp only [Act.put, List.getElem_toArray, List.getElem_cons_zero, List.getElem_cons_succ, List.setIfInBounds_toArray, List.set_cons_zero, List.set_cons_succ]
          refine wpAnyH_take (i := 8) (v := ?_) rfl (by kernel_rfl) (by kernel_rfl) (by kernel_rfl) (fun _ _ _ h => h) (Or.inl ⟨by rfl, ?yt8⟩) (by assumption) ?rt8
          case yt8 => (intro wz hSw; (try dsimp only at hSw); go_simp <;> with_reducible rfl)
          simp only [Act.put, List.getElem_toArray, List.getElem_cons_zero, List.getElem_cons_succ, List.setIfInBounds_toArray, List.set_cons_zero, List.set_cons_succ]
          refine wpAnyH_take (i := 9) (v := ?_) rfl (by kernel_rfl) (by kernel_rfl) (by kernel_rfl) (fun _ _ _ h => h) (Or.inl ⟨by rfl, ?yt9⟩) (by assumption) ?rt9
          case yt9 => (intro wz hSw; (try dsimp only at hSw); go_simp <;> with_reducible rfl)
          simp only [Act.put, List.getElem_toArray, List.getElem_cons_zero, List.getElem_cons_succ, List.setIfInBounds_toArray, List.set_cons_zero, List.set_cons_succ]
          refine wpAnyH_take (i := 10) (v := ?_) rfl (by kernel_rfl) (by kernel_rfl) (by kernel_rfl) (fun _ _ _ h => h) (Or.inl ⟨by rfl, ?yt10⟩) (by assumption) ?rt10
          case yt10 => (intro wz hSw; (try dsimp only at hSw); go_simp <;> with_reducible rfl)
          simp only [Act.put, List.getElem_toArray, List.getElem_cons_zero, List.getElem_cons_succ, List.setIfInBounds_toArray, List.set_cons_zero, List.set_cons_succ]
          refine wpAnyH_take (i := 12) (v := ?_) rfl (by kernel_rfl) (by kernel_rfl) (by kernel_rfl) (fun _ _ _ h => h) (Or.inl ⟨by rfl, ?yt12⟩) (by assumption) ?rt12
          case yt12 => (intro wz hSw; (try dsimp only at hSw); go_simp <;> with_reducible rfl)
          simp only [Act.put, List.getElem_toArray, List.getElem_cons_zero, List.getElem_cons_succ, List.setIfInBounds_toArray, List.set_cons_zero, List.set_cons_succ]
          refine wpAnyH_take (i := 13) (v := ?_) rfl (by kernel_rfl) (by kernel_rfl) (by kernel_rfl) (fun _ _ _ h => h) (Or.inl ⟨by rfl, ?yt13⟩) (by assumption) ?rt13
          case yt13 => (intro wz hSw; (try dsimp only at hSw); go_simp <;> with_reducible rfl)
          simp only [Act.put, List.getElem_toArray, List.getElem_cons_zero, List.getElem_cons_succ, List.setIfInBounds_toArray, List.set_cons_zero, List.set_cons_succ]
          refine wpAnyH_take (i := 14) (v := ?_) rfl (by kernel_rfl) (by kernel_rfl) (by kernel_rfl) (fun _ _ _ h => h) (Or.inl ⟨by rfl, ?yt14⟩) (by assumption) ?rt14
          case yt14 => (intro wz hSw; (try dsimp only at hSw); go_simp <;> with_reducible rfl)
          simp only [Act.put, List.getElem_toArray, List.getElem_cons_zero, List.getElem_cons_succ, List.setIfInBounds_toArray, List.set_cons_zero, List.set_cons_succ]
          refine wpAnyH_ready (rs := [11]) (by kernel_rfl) (by simp) ?_
          refine AllReadyH.cons rfl (fun K hK => ?_) AllReadyH.nil
          go_simp
          ((with_reducible refine (HS2.out _).mono ?_); rintro e x ⟨rfl, rfl⟩)
          (try go_wp2_with fail)
          refine hK.out _ _ (by assumption) (fun hHeld11 => ?_)
          clear hK K
          (try simp only [Act.put, List.getElem_toArray, List.getElem_cons_zero, List.getElem_cons_succ, List.setIfInBounds_toArray, List.set_cons_zero, List.set_cons_succ])
          refine wpAnyH_ready (rs := [15]) (by kernel_rfl) (by simp) ?_
          refine AllReadyH.cons rfl (fun K hK => ?_) AllReadyH.nil
          go_simp
          ((with_reducible refine ((held_pi (B := PI w _ ba ga N A b' g2 M V' u9 x') (by assumption)).tellsB HT.out HG.out I).mono ?_); rintro e w5 ⟨rfl, hb5⟩)
          (try go_wp2_with fail)
          refine hK.out _ _ (pi_keep (by assumption) hb5) (fun hHeld15 => ?_)
          clear hK K
          (try simp only [Act.put, List.getElem_toArray, List.getElem_cons_zero, List.getElem_cons_succ, List.setIfInBounds_toArray, List.set_cons_zero, List.set_cons_succ])
          clear hHeld6 hHeld11
          refine wpAnyH_take (i := 16) (v := ?_) rfl (by kernel_rfl) (by kernel_rfl) (by kernel_rfl) (fun _ _ _ h => h) (Or.inl ⟨by rfl, ?yt16⟩) (by assumption) ?rt16
          case yt16 => (intro wz hSw; (try dsimp only at hSw); go_simp <;> with_reducible rfl)
          simp only [Act.put, List.getElem_toArray, List.getElem_cons_zero, List.getElem_cons_succ, List.setIfInBounds_toArray, List.set_cons_zero, List.set_cons_succ]
          refine wpAnyH_take (i := 17) (v := ?_) rfl (by kernel_rfl) (by kernel_rfl) (by kernel_rfl) (fun _ _ _ h => h) (Or.inl ⟨by rfl, ?yt17⟩) (by assumption) ?rt17
          case yt17 => (intro wz hSw; (try dsimp only at hSw); go_simp <;> with_reducible rfl)
          simp only [Act.put, List.getElem_toArray, List.getElem_cons_zero, List.getElem_cons_succ, List.setIfInBounds_toArray, List.set_cons_zero, List.set_cons_succ]
          refine wpAnyH_take (i := 18) (v := ?_) rfl (by kernel_rfl) (by kernel_rfl) (by kernel_rfl) (fun _ _ _ h => h) (Or.inl ⟨by rfl, ?yt18⟩) (by assumption) ?rt18
          case yt18 => (intro wz hSw; (try dsimp only at hSw); go_simp <;> with_reducible rfl)
          simp only [Act.put, List.getElem_toArray, List.getElem_cons_zero, List.getElem_cons_succ, List.setIfInBounds_toArray, List.set_cons_zero, List.set_cons_succ]
          refine wpAnyH_take (i := 19) (v := ?_) rfl (by kernel_rfl) (by kernel_rfl) (by kernel_rfl) (fun _ _ _ h => h) (Or.inl ⟨by rfl, ?yt19⟩) (by assumption) ?rt19
          case yt19 => (intro wz hSw; (try dsimp only at hSw); go_simp <;> with_reducible rfl)
          simp only [Act.put, List.getElem_toArray, List.getElem_cons_zero, List.getElem_cons_succ, List.setIfInBounds_toArray, List.set_cons_zero, List.set_cons_succ]
          refine wpAnyH_take (i := 20) (v := ?_) rfl (by kernel_rfl) (by kernel_rfl) (by kernel_rfl) (fun _ _ _ h => h) (Or.inl ⟨by rfl, ?yt20⟩) (by assumption) ?rt20
          case yt20 => (intro wz hSw; (try dsimp only at hSw); go_simp <;> with_reducible rfl)
          simp only [Act.put, List.getElem_toArray, List.getElem_cons_zero, List.getElem_cons_succ, List.setIfInBounds_toArray, List.set_cons_zero, List.set_cons_succ]
          refine wpAnyH_take (i := 22) (v := ?_) rfl (by kernel_rfl) (by kernel_rfl) (by kernel_rfl) (fun _ _ _ h => h) (Or.inl ⟨by rfl, ?yt22⟩) (by assumption) ?rt22
          case yt22 => (intro wz hSw; (try dsimp only at hSw); go_simp <;> with_reducible rfl)
          simp only [Act.put, List.getElem_toArray, List.getElem_cons_zero, List.getElem_cons_succ, List.setIfInBounds_toArray, List.set_cons_zero, List.set_cons_succ]
          refine wpAnyH_take (i := 24) (v := ?_) rfl (by kernel_rfl) (by kernel_rfl) (by kernel_rfl) (fun _ _ _ h => h) (Or.inl ⟨by rfl, ?yt24⟩) (by assumption) ?rt24
          case yt24 => (intro wz hSw; (try dsimp only at hSw); go_simp <;> with_reducible rfl)
          simp only [Act.put, List.getElem_toArray, List.getElem_cons_zero, List.getElem_cons_succ, List.setIfInBounds_toArray, List.set_cons_zero, List.set_cons_succ]
          refine wpAnyH_ready (rs := [21]) (by kernel_rfl) (by simp) ?_
          refine AllReadyH.cons rfl (fun K hK => ?_) AllReadyH.nil
          go_simp
          ((with_reducible refine ((held_pi (B := PI w _ ba ga N A b' g2 M V' u9 x') (by assumption)).same).mono ?_); rw [HSR.out]; rintro e w6 ⟨rfl, hb6⟩)
          (try go_wp2_with fail)
          refine hK.out _ _ (pi_keep (by assumption) hb6) (fun hHeld21 => ?_)
          clear hK K
          (try simp only [Act.put, List.getElem_toArray, List.getElem_cons_zero, List.getElem_cons_succ, List.setIfInBounds_toArray, List.set_cons_zero, List.set_cons_succ])
          clear hHeld15
          refine wpAnyH_ready (rs := [23]) (by kernel_rfl) (by simp) ?_
          refine AllReadyH.cons rfl (fun K hK => ?_) AllReadyH.nil
          go_simp
          ((with_reducible refine ((held_pi (B := PI w _ ba ga N A b' g2 M V' u9 x') (by assumption)).lenA).mono ?_); rintro e x ⟨rfl, rfl⟩)
          (try go_wp2_with fail)
          refine hK.out _ _ (by assumption) (fun hHeld23 => ?_)
          clear hK K
          (try simp only [Act.put, List.getElem_toArray, List.getElem_cons_zero, List.getElem_cons_succ, List.setIfInBounds_toArray, List.set_cons_zero, List.set_cons_succ])
          refine wpAnyH_ready (rs := [25]) (by kernel_rfl) (by simp) ?_
          refine AllReadyH.cons rfl (fun K hK => ?_) AllReadyH.nil
          go_simp
          ((with_reducible refine ((held_pi (B := PI w _ ba ga N A b' g2 M V' u9 x') (by assumption)).lenB).mono ?_); rintro e x ⟨rfl, rfl⟩)
          (try go_wp2_with fail)
          refine hK.out _ _ (by assumption) (fun hHeld25 => ?_)
          clear hK K
          (try simp only [Act.put, List.getElem_toArray, List.getElem_cons_zero, List.getElem_cons_succ, List.setIfInBounds_toArray, List.set_cons_zero, List.set_cons_succ])
          refine wpAnyH_take (i := 26) (v := ?_) rfl (by kernel_rfl) (by kernel_rfl) (by kernel_rfl) (fun _ _ _ h => h) (Or.inl ⟨by rfl, ?yt26⟩) (by assumption) ?rt26
          case yt26 => (intro wz hSw; (try dsimp only at hSw); go_simp <;> with_reducible rfl)
          simp only [Act.put, List.getElem_toArray, List.getElem_cons_zero, List.getElem_cons_succ, List.setIfInBounds_toArray, List.set_cons_zero, List.set_cons_succ]
          refine wpAnyH_take (i := 27) (v := ?_) rfl (by kernel_rfl) (by kernel_rfl) (by kernel_rfl) (fun _ _ _ h => h) (Or.inl ⟨by rfl, ?yt27⟩) (by assumption) ?rt27
          case yt27 => (intro wz hSw; (try dsimp only at hSw); go_simp <;> with_reducible rfl)
          simp only [Act.put, List.getElem_toArray, List.getElem_cons_zero, List.getElem_cons_succ, List.setIfInBounds_toArray, List.set_cons_zero, List.set_cons_succ]
          refine wpAnyH_take (i := 28) (v := undef) rfl (by kernel_rfl) (by kernel_rfl) (by kernel_rfl) (fun _ _ _ h => h) (Or.inr ⟨by rfl, rfl⟩) (by assumption) ?_
          simp only [Act.put, List.getElem_toArray, List.getElem_cons_zero, List.getElem_cons_succ, List.setIfInBounds_toArray, List.set_cons_zero, List.set_cons_succ]
          refine wpAnyH_take (i := 29) (v := undef) rfl (by kernel_rfl) (by kernel_rfl) (by kernel_rfl) (fun _ _ _ h => h) (Or.inr ⟨by rfl, rfl⟩) (by assumption) ?_
          simp only [Act.put, List.getElem_toArray, List.getElem_cons_zero, List.getElem_cons_succ, List.setIfInBounds_toArray, List.set_cons_zero, List.set_cons_succ]
          refine wpAnyH_take (i := 30) (v := undef) rfl (by kernel_rfl) (by kernel_rfl) (by kernel_rfl) (fun _ _ _ h => h) (Or.inr ⟨by rfl, rfl⟩) (by assumption) ?_
          simp only [Act.put, List.getElem_toArray, List.getElem_cons_zero, List.getElem_cons_succ, List.setIfInBounds_toArray, List.set_cons_zero, List.set_cons_succ]
          refine wpAnyH_take (i := 31) (v := ?_) rfl (by kernel_rfl) (by kernel_rfl) (by kernel_rfl) (fun _ _ _ h => h) (Or.inl ⟨by rfl, ?yt31⟩) (by assumption) ?rt31
          case yt31 => (intro wz hSw; (try dsimp only at hSw); go_simp <;> with_reducible rfl)
          simp only [Act.put, List.getElem_toArray, List.getElem_cons_zero, List.getElem_cons_succ, List.setIfInBounds_toArray, List.set_cons_zero, List.set_cons_succ]
          refine wpAnyH_take (i := 32) (v := ?_) rfl (by kernel_rfl) (by kernel_rfl) (by kernel_rfl) (fun _ _ _ h => h) (Or.inl ⟨by rfl, ?yt32⟩) (by assumption) ?rt32
          case yt32 => (intro wz hSw; (try dsimp only at hSw); go_simp <;> with_reducible rfl)
          simp only [Act.put, List.getElem_toArray, List.getElem_cons_zero, List.getElem_cons_succ, List.setIfInBounds_toArray, List.set_cons_zero, List.set_cons_succ]
          refine wpAnyH_take (i := 33) (v := ?_) rfl (by kernel_rfl) (by kernel_rfl) (by kernel_rfl) (fun _ _ _ h => h) (Or.inl ⟨by rfl, ?yt33⟩) (by assumption) ?rt33
          case yt33 => (intro wz hSw; (try dsimp only at hSw); go_simp <;> with_reducible rfl)
          simp only [Act.put, List.getElem_toArray, List.getElem_cons_zero, List.getElem_cons_succ, List.setIfInBounds_toArray, List.set_cons_zero, List.set_cons_succ]
          refine wpAnyH_done (by kernel_rfl) ?_ _
          all_goals
            clear d2 hrr hne2 hne3 hne4 hne5
            go_wp2_with fail
            go_roundw
            case rel => exact ⟨k + 1, ba, ga, A, b', g2, V', by go_num, by omega, rfl, rfl, Lib.hid (held_pi (B := PI w _ ba ga N A b' g2 M V' u9 x') (by assumption))⟩
            case measure => simp [intOf]; omega
    · have HL0 := Lib.hid (HL.out wr HP.out.1)
      have HB := Lib.hid HP.out.1
      clear HT HG HC HL HP
      go_wp2_with fail
      refine (HL0.out).mono ?_
      rintro e w1 ⟨rfl, hb⟩
      go_wp2
      go_ret
      exact ⟨rfl, HB.out.trans (hb.mono HB.out.size)⟩
section
open Go.Deep
variable {H : Type} {enc : TypeId × Value → H} {P : Program} {w : World}
/-- A slice of structs that came in, each field of one cell: where its fields lie, and that each reads. -/
theorem open_structs {r : Reach} {b0 : Nat} {t e : TypeId} {fs : Array Field} {v : Value} {d : DataW H} {p : List MemPlace} (ht : P.underlying t = some (.slice e)) (he : P.underlying e = some (.struct fs)) (hone : oneCellFields P fs = true)
    (hC : P.cellsOf e = fs.size) (hpos : 0 < fs.size) (hv : Value.okWide P w r b0 t v) (h : DataW.Trod enc P w 0 (fun _ => true) true t v d p) :
    ∃ (a0 : Option Addr) (len cap : Nat), v = .slice a0 len cap ∧ len ≤ 9223372036854775807 ∧ ∀ i, i < len → ∃ g o, a0 = some ⟨g, o, none⟩ ∧ g < w.heap.size ∧
      ∀ (j : Nat) (f : Field), fs[j]? = some f → ∃ (u : Value) (y : DataW H × List MemPlace) (n : Nat), w.cell? ⟨g, o + i * fs.size + j, none⟩ = some u ∧ DataW.trod enc P w 0 (fun _ => true) true n f.type [u] = some y := by
  obtain ⟨a0, len, cap, rfl⟩ := okWide_slice ht hv
  obtain ⟨fuel, hf⟩ := h
  refine ⟨a0, len, cap, rfl, ?_⟩
  rcases open_slice ht hf with ⟨hcs, _⟩ | ⟨a, len', cap', m, n, D, Pl, hcs, _, hl, hm, hmm, _, hel⟩
  · simp [Value.cells] at hcs
    obtain ⟨rfl, rfl, rfl⟩ := hcs
    exact ⟨by omega, fun i hi => absurd hi (by omega)⟩
  · simp [Value.cells] at hcs
    obtain ⟨rfl, rfl, rfl⟩ := hcs
    simp only [if_true] at hmm
    refine ⟨by simp only [maxLen] at hm; omega, fun i hi => ?_⟩
    obtain ⟨cs', hc, ht'⟩ := hel i (by omega)
    obtain ⟨_, hcl, hat⟩ := World.cells?_some hc
    obtain ⟨xs, n', _, _, _, hxl, hg⟩ := DataW.trod_struct he ht'
    rw [hC] at hcl hat
    have hcell : ∀ j, j < fs.size → ∃ u, cs'[j]? = some u ∧ w.cell? ((a.add (i * fs.size)).add j) = some u := fun j hj => by
      have h1 : cs'[j]? = some (cs'[j]'(by omega)) := List.getElem?_eq_getElem (by omega)
      exact ⟨_, h1, (hat j hj).trans h1⟩
    obtain ⟨b, off, spot⟩ := a
    have hspot : spot = none := by
      obtain ⟨cs0, hc0, _⟩ := hel 0 (by omega)
      obtain ⟨_, hcl0, hat0⟩ := World.cells?_some hc0
      rw [hC] at hcl0 hat0
      have hu := (hat0 0 hpos).trans (List.getElem?_eq_getElem (by omega))
      simpa [Addr.add] using World.cell?_spot hu
    subst hspot
    have hadd : ∀ j, (Addr.add (Addr.add ⟨b, off, none⟩ (i * fs.size)) j) = ⟨b, off + i * fs.size + j, none⟩ := fun j => by rw [add_plain, add_plain]
    refine ⟨b, off, rfl, ?_, fun j f hj => ?_⟩
    · obtain ⟨u, _, hu⟩ := hcell 0 hpos
      rw [hadd] at hu
      exact World.block_lt_of_cell? w _ hu
    · have hjl : j < fs.size := (Array.getElem?_eq_some_iff.1 hj).1
      obtain ⟨u, hu, hcu⟩ := hcell j hjl
      obtain ⟨ho, hk⟩ := hone_of hone j f hj
      have h1 := hg j f hj
      have h2 : (cs'.drop j).take 1 = [u] := by
        obtain ⟨hlt, hh⟩ := List.getElem?_eq_some_iff.1 hu
        rw [List.drop_eq_getElem_cons hlt, hh]; rfl
      rw [ho, hk, h2, List.getElem?_eq_getElem (by omega)] at h1
      rw [hadd] at hcu
      exact ⟨u, _, n', hcu, h1⟩
end
section
variable {H : Type} {enc : TypeId × Value → H} {w : World}
set_option maxRecDepth 100000 in
theorem open_deeds {r : Reach} {b0 : Nat} {v : Value} {d : DataW H} {p : List MemPlace} (hv : Value.okWide Tryd.prog w r b0 22 v) (h : DataW.Trod enc Tryd.prog w 0 (fun _ => true) true 22 v d p) : ∃ zs, Deeds w v zs := by
  obtain ⟨a0, len, cap, rfl, hl, hi⟩ := open_structs Tryd.underlying22 Tryd.underlying28 (by kernel_rfl) (by kernel_rfl) (by decide) hv h
  have hx : ∀ k, ∃ q : Int × Bool × Int × Bool, k < len → ∃ g o, a0 = some ⟨g, o, none⟩ ∧ g < w.heap.size ∧ w.cell? ⟨g, o + k * 4, none⟩ = some (.int .i64 q.1) ∧ w.cell? ⟨g, o + k * 4 + 1, none⟩ = some (.bool q.2.1) ∧
      w.cell? ⟨g, o + k * 4 + 2, none⟩ = some (.int .i64 q.2.2.1) ∧ w.cell? ⟨g, o + k * 4 + 3, none⟩ = some (.bool q.2.2.2) := fun k => by
    by_cases hk : k < len
    · obtain ⟨g, o, ha, hg, hc⟩ := hi k hk
      obtain ⟨u0, y0, n0, hc0, ht0⟩ := hc 0 _ rfl
      obtain ⟨u1, y1, n1, hc1, ht1⟩ := hc 1 _ rfl
      obtain ⟨u2, y2, n2, hc2, ht2⟩ := hc 2 _ rfl
      obtain ⟨u3, y3, n3, hc3, ht3⟩ := hc 3 _ rfl
      obtain ⟨z0, hz0, _, _⟩ := DataW.trod_int Tryd.underlying3 ht0
      obtain ⟨z1, hz1, _⟩ := DataW.trod_bool Tryd.underlying4 ht1
      obtain ⟨z2, hz2, _, _⟩ := DataW.trod_int Tryd.underlying3 ht2
      obtain ⟨z3, hz3, _⟩ := DataW.trod_bool Tryd.underlying4 ht3
      obtain rfl := (List.cons.inj hz0).1
      obtain rfl := (List.cons.inj hz1).1
      obtain rfl := (List.cons.inj hz2).1
      obtain rfl := (List.cons.inj hz3).1
      exact ⟨(z0, z1, z2, z3), fun _ => ⟨g, o, ha, hg, hc0, hc1, hc2, hc3⟩⟩
    · exact ⟨(0, false, 0, false), fun h => absurd h hk⟩
  obtain ⟨f, hf⟩ := Classical.axiomOfChoice hx
  have hlen : ((List.range len).map f).length = len := by simp
  refine ⟨(List.range len).map f, a0, cap, by rw [hlen], by rw [hlen]; exact hl, fun k hk => ?_⟩
  rw [hlen] at hk
  obtain ⟨g, o, ha, hg, c0, c1, c2, c3⟩ := hf k hk
  refine ⟨g, o, ha, hg, (f k).1, (f k).2.1, (f k).2.2.1, (f k).2.2.2, ?_, c0, c1, c2, c3⟩
  simp [List.getD_eq_getElem?_getD, hk]
end
set_option maxRecDepth 100000 in
/-- What the walk gives, for every argument and every world that holds the table. -/
theorem contract (H : Type) (enc : TypeId × Value → H) (W : World) (base : Nat) (args : Array Value) (ds gs : List (DataW H)) (before : List MemPlace)
    (hval : ∀ (j : Nat) t v, Tryd.f3.params[j]? = some t → args[j]? = some v → Value.okWide Tryd.prog W .any base t v)
    (hW : DataW.Whole enc Tryd.prog Tryd.f3.params.toList Rows.rowPlaysSpec.vars false W args.toList ds gs before) (hL : laidMetH Tryd.prog Rows.rowPlaysRow.laid W) :
    Calls Tryd.prog 3 args W fun e W' => ∃ v, e = .returned v ∧ Rows.rowPlaysSpec.post enc Tryd.prog Tryd.f3 false true false false W args v W' := by
  have hW' := hW
  obtain ⟨p, q, hA0, hV, rfl, hfz, hnd⟩ := hW
  have hA : DataW.TrodAll enc Tryd.prog W 0 (fun _ => true) true Tryd.f3.params.toList args.toList ds p := hA0
  rw [Tryd.params3] at hA hval
  obtain ⟨v0, vs0, d0, ds0, p0, q0, hargs, rfl, rfl, r0, r0'⟩ := trodAll_cons hA
  obtain ⟨v1, vs1, d1, ds1, p1, q1, rfl, rfl, rfl, r1, r1'⟩ := trodAll_cons r0'
  obtain ⟨v2, vs2, d2, ds2, p2, q2, rfl, rfl, rfl, r2, r2'⟩ := trodAll_cons r1'
  obtain ⟨rfl, rfl, rfl⟩ := trodAll_nil r2'
  obtain rfl : args = #[v0, v1, v2] := by cases args; simp_all
  obtain ⟨rfl, rfl⟩ := trodVars_none hV
  have hlt : ∀ x ∈ p0 ++ (p1 ++ (p2 ++ [])), x.block < W.heap.size := fun x hx => by simpa using hW'.lt x (by simpa using hx)
  have back0 : ∀ W', Below W.heap.size W W' → DataW.Trod enc Tryd.prog W' 0 (fun b => decide (b < W.heap.size)) true 3 v0 d0 p0 :=
    fun W' hn => Below.trod laidOut (by kernel_rfl) (of_decide_eq_true (by kernel_rfl)) r0 hn fun x hx => hlt x (by simp [hx])
  have back1 : ∀ W', Below W.heap.size W W' → DataW.Trod enc Tryd.prog W' 0 (fun b => decide (b < W.heap.size)) true 3 v1 d1 p1 :=
    fun W' hn => Below.trod laidOut (by kernel_rfl) (of_decide_eq_true (by kernel_rfl)) r1 hn fun x hx => hlt x (by simp [hx])
  have back2 : ∀ W', Below W.heap.size W W' → DataW.Trod enc Tryd.prog W' 0 (fun b => decide (b < W.heap.size)) true 22 v2 d2 p2 :=
    fun W' hn => Below.trod laidOut (by kernel_rfl) (of_decide_eq_true (by kernel_rfl)) r2 hn fun x hx => hlt x (by simp [hx])
  obtain ⟨n, rfl, _, _, _⟩ := open_int Tryd.underlying3 (hval 0 3 v0 rfl rfl) r0
  obtain ⟨k, rfl, _, _, _⟩ := open_int Tryd.underlying3 (hval 1 3 v1 rfl rfl) r1
  obtain ⟨zs, hzs⟩ := open_deeds (hval 2 22 v2 rfl rfl) r2
  refine (walk n k v2 zs W hzs (table hL)).mono fun e W' ⟨he, hb⟩ => ?_
  subst he
  exact ⟨_, rfl, _, _, _, [], _, [], hW', trodAll_cons_mk (shut_bool Tryd.underlying4 _) trodAll_mk0, trodAll_cons_mk (back0 W' hb) (trodAll_cons_mk (back1 W' hb) (trodAll_cons_mk (back2 W' hb) trodAll_mk0)), rfl, hb.frame _, fun h => by cases h⟩
/-- A world for the witness: the settled one, the table holding what its text lays. -/
noncomputable def laidWorld (os : Os) : World :=
  { World.holding Tryd.prog os ⟨#[], #[], []⟩ with heap := (World.holding Tryd.prog os ⟨#[], #[], []⟩).heap.modify 0 fun
      | .cells _ t frozen => .cells (Lib.deBruijn64tab.map fun (z : Nat) => Value.int .u8 (z : Int)).toArray t frozen
      | o => o }
def wargs : Array Value := #[.int .i64 0, .int .i64 0, .slice none 0 0]
set_option maxRecDepth 100000 in
theorem laid_met (os : Os) : laidMet Tryd.prog Rows.rowPlaysRow.laid ((laidWorld os).forCall (fun _ _ => 0) ⟨#[], wargs, []⟩).memory :=
  laidMet_of_run' 8 (by kernel_rfl) (by kernel_rfl)
set_option maxRecDepth 100000 in
theorem reads (os : Os) {H : Type} (enc : TypeId × Value → H) : ∃ places, DataW.whole enc Tryd.prog ((laidWorld os).forCall (fun _ _ => 0) ⟨#[], wargs, []⟩).memory Tryd.f3.params.toList Rows.rowPlaysSpec.vars false wargs.toList 8 = some ([.lit (.int .i64 0), .lit (.int .i64 0), .nil], [], places) :=
  ⟨[], by kernel_rfl⟩
set_option maxRecDepth 100000 in
theorem lifted (os : Os) (started : os.Started) (H : Type) (enc : TypeId × Value → H) (F : Stop.Interp) :
    ReturnsInHanded {} Tryd.checked os 3 .any ((OpenSpec.ofChange Rows.rowPlaysSpec).preRow enc Tryd.prog Tryd.f3 Rows.rowPlaysRow.domain false Rows.rowPlaysRow.laid) (((OpenSpec.ofChange Rows.rowPlaysSpec).at F).post enc Tryd.prog Tryd.f3 false true false false) := by
  obtain ⟨places, hx⟩ := reads os enc
  refine returnsInHanded_of_row (C := Tryd.checked) (s := OpenSpec.ofChange Rows.rowPlaysSpec) own started (by kernel_rfl) Tryd.func3
    (witness_row_at (enc := enc) (C := Tryd.checked) false (laidWorld os) wargs rfl (by kernel_rfl) (by kernel_rfl) (by kernel_rfl)
      (OpenSpec.preRow_of_cond 8 hx (by kernel_rfl) (fun k hk => by cases hk) (by kernel_rfl) (laid_met os))) ?_
  intro W base args ds gs before hval hW _ _ _ hL _ _
  exact contract H enc W base args ds gs before hval hW hL
set_option maxRecDepth 100000 in
theorem said : Rows.RowPlaysSaid :=
  OpenClaim.holds_of_cond 3 Tryd.f3 rfl rfl rfl rfl rfl rfl rfl ⟨rfl, rfl, rfl, rfl, rfl⟩ rfl rfl rfl rfl rfl (by kernel_rfl) Tryd.func3 (by kernel_rfl)
    (of_decide_eq_true (by kernel_rfl)) (by unfold Func.isWrapper; first | (rw [if_pos (by decide +kernel)]; kernel_rfl) | (rw [if_neg (by decide +kernel)]; exact ⟨rfl, rfl⟩))
    (fun os started H enc _ F => by rw [OpenClaim.pre_eq_preRow]; exact lifted os started H enc F)
set_option maxRecDepth 100000 in
/-- No parameter wants a stand-in; the program's own looks are off. -/
theorem plain (f : FuncId) (fn : Func) (hf : Tryd.pinned.checked.prog.funcNamed "tenter/tenterlaw01.RowPlays" = some f) (hfn : Tryd.pinned.checked.prog.funcs[f]? = some fn) :
    false = Tryd.pinned.checked.prog.looks [] ∧ ∀ (j : Nat) t, fn.params[j]? = some t → Tryd.pinned.checked.prog.wantsStandIn t = false := by
  obtain rfl : f = 3 := Option.some.inj ((show Tryd.prog.funcNamed "tenter/tenterlaw01.RowPlays" = some 3 by kernel_rfl).symm.trans hf) |>.symm
  obtain rfl : fn = Tryd.f3 := (Option.some.inj (Tryd.func3.symm.trans hfn)).symm
  refine ⟨by kernel_rfl, fun j t ht => ?_⟩
  rw [Tryd.params3] at ht
  have hm : t = 3 ∨ t = 22 := by have := Array.mem_of_getElem? ht; simp at this; omega
  rcases hm with rfl | rfl
  · exact (show Tryd.prog.wantsStandIn 3 = false by kernel_rfl)
  · exact (show Tryd.prog.wantsStandIn 22 = false by kernel_rfl)
set_option maxRecDepth 100000 in
/-- The card. -/
theorem proved : Rows.RowPlaysCardSaid :=
  Claim7.holds_tied_plain_at .later [] _ _ _ _ said (fun _ h => by cases h) (by kernel_rfl) (fun _ h => by cases h) rowPlays_row_tie rfl ⟨rfl, rfl⟩ (by kernel_rfl) rfl plain (by kernel_rfl)
#print axioms proved
end Go.Proofs.YtoakpmbiplmpbaaDoor.rowPlays
