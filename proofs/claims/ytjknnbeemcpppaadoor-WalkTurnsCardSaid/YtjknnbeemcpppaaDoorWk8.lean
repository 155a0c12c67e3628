/-
  Walks: contracts of the comparison that Turn hands in, and of least. Not a statement of the seat.
-/
import Derived.Test.YtjknnbeemcpppaaDoorWk5
import Derived.Deep.RegionHeld3
namespace Go.Proofs.YtjknnbeemcpppaaDoor.Wk
open Go.ChangeShapes Go.WideShapes Go.ChangeAt Go.RowKit Base Pk F
set_option maxRecDepth 100000 in
set_option maxHeartbeats 4000000 in
theorem turn1_any {w : World} {b n i j : Nat} {p : Option Addr} {c : Nat} {l : List E} (hbx : w.heap[b]? = some (.cells #[.slice p n c] 22)) (h : Eds w (.slice p n c) l) (hn : l.length = n) (hi : i < n) (hj : j < n) :
    Calls Tryd.prog 28 (#[] ++ #[.int .i64 (i : Int), .int .i64 (j : Int)] ++ #[.pointer (some ⟨b, 0, none⟩)]) w fun e w' => e = .returned (.int .i64 (cmpW (l.getD i zE) (l.getD j zE))) ∧ Below w.heap.size w w' := by
  obtain ⟨p', c', hv, hc⟩ := eds_at h hn
  injection hv with e1 e2 e3
  subst e1 e3
  obtain ⟨g, o, rfl, hcl⟩ := hc i hi
  obtain ⟨g', o', he, hcl2⟩ := hc j hj
  injection he with he
  injection he with e1 e2
  subst e1 e2
  have hii : (i : Int) < (n : Int) := by omega
  have hjj : (j : Int) < (n : Int) := by omega
  have HCW := Lib.hid (fun W => compare_wk (l.getD i zE) (l.getD j zE) W)
  have HS : Hid (∀ X, Below w.heap.size w X → (b < X.heap.size ∧ X.cell? ⟨b, 0, none⟩ = some (.slice (some ⟨g, o, none⟩) n c)) ∧ (g < X.heap.size ∧ X.cell? ⟨g, o + i * 4, none⟩ = some (.int .i64 (l.getD i zE).1) ∧ X.cell? ⟨g, o + i * 4 + 1, none⟩ = some (.int .i64 (l.getD i zE).2.1) ∧ X.cell? ⟨g, o + i * 4 + 2, none⟩ = some (.int .i64 (l.getD i zE).2.2.1) ∧ X.cell? ⟨g, o + i * 4 + 3, none⟩ = some (.int .i64 (l.getD i zE).2.2.2)) ∧ (g < X.heap.size ∧ X.cell? ⟨g, o + j * 4, none⟩ = some (.int .i64 (l.getD j zE).1) ∧ X.cell? ⟨g, o + j * 4 + 1, none⟩ = some (.int .i64 (l.getD j zE).2.1) ∧ X.cell? ⟨g, o + j * 4 + 2, none⟩ = some (.int .i64 (l.getD j zE).2.2.1) ∧ X.cell? ⟨g, o + j * 4 + 3, none⟩ = some (.int .i64 (l.getD j zE).2.2.2))) := Lib.hid fun X hX => by
    have k := keep_block hX hbx
    exact ⟨⟨heap_lt k, by simp [World.cell?, k]⟩, hcl X hX, hcl2 X hX⟩
  generalize cmpW (l.getD i zE) (l.getD j zE) = r at HCW ⊢
  generalize l.getD i zE = x at HCW HS
  generalize l.getD j zE = y at HCW HS
  obtain ⟨x0, x1, x2, x3⟩ := x
  obtain ⟨y0, y1, y2, y3⟩ := y
  unfold vE at HCW
  dsimp only at HS HCW
  clear h hc hbx hcl hcl2 hn
  go_enter Tryd.func28, Tryd.ntmps28
  go_upto_region 1 with fail
  refine wp_region_held_drew (S := fun X => (b < X.heap.size ∧ X.cell? ⟨b, 0, none⟩ = some (.slice (some ⟨g, o, none⟩) n c)) ∧ (g < X.heap.size ∧ X.cell? ⟨g, o + i * 4, none⟩ = some (.int .i64 x0) ∧ X.cell? ⟨g, o + i * 4 + 1, none⟩ = some (.int .i64 x1) ∧ X.cell? ⟨g, o + i * 4 + 2, none⟩ = some (.int .i64 x2) ∧ X.cell? ⟨g, o + i * 4 + 3, none⟩ = some (.int .i64 x3)) ∧ (g < X.heap.size ∧ X.cell? ⟨g, o + j * 4, none⟩ = some (.int .i64 y0) ∧ X.cell? ⟨g, o + j * 4 + 1, none⟩ = some (.int .i64 y1) ∧ X.cell? ⟨g, o + j * 4 + 2, none⟩ = some (.int .i64 y2) ∧ X.cell? ⟨g, o + j * 4 + 3, none⟩ = some (.int .i64 y3))) (by kernel_rfl) (HS.out _ (below_drewN (Below.refl _ _) 1)) (fun hHeld0 => ?_)
  refine wpAnyH_take (i := 0) (v := ?_) rfl (by kernel_rfl) (by kernel_rfl) (by kernel_rfl) (fun _ _ _ h => h) (Or.inl ⟨by rfl, ?yta0⟩) (by assumption) ?qta0
  case yta0 => (intro wz hSw; (try dsimp only at hSw); go_simp <;> with_reducible rfl)
  try simp only [Act.put, List.getElem_toArray, List.getElem_cons_zero, List.setIfInBounds_toArray, List.set_cons_zero, List.set_cons_succ]
  refine wpAnyH_take (i := 1) (v := ?_) rfl (by kernel_rfl) (by kernel_rfl) (by kernel_rfl) (fun _ _ _ h => h) (Or.inl ⟨by rfl, ?yta1⟩) (by assumption) ?qta1
  case yta1 => (intro wz hSw; (try dsimp only at hSw); go_simp <;> with_reducible rfl)
  try simp only [Act.put, List.getElem_toArray, List.getElem_cons_zero, List.getElem_cons_succ, List.setIfInBounds_toArray, List.set_cons_zero, List.set_cons_succ]
  refine wpAnyH_take (i := 2) (v := ?_) rfl (by kernel_rfl) (by kernel_rfl) (by kernel_rfl) (fun _ _ _ h => h) (Or.inl ⟨by rfl, ?yta2⟩) (by assumption) ?qta2
  case yta2 => (intro wz hSw; (try dsimp only at hSw); go_simp <;> with_reducible rfl)
  try simp only [Act.put, List.getElem_toArray, List.getElem_cons_zero, List.getElem_cons_succ, List.setIfInBounds_toArray, List.set_cons_zero, List.set_cons_succ]
  refine wpAnyH_take (i := 3) (v := ?_) rfl (by kernel_rfl) (by kernel_rfl) (by kernel_rfl) (fun _ _ _ h => h) (Or.inl ⟨by rfl, ?yta3⟩) (by assumption) ?qta3
  case yta3 => (intro wz hSw; (try dsimp only at hSw); go_simp <;> with_reducible rfl)
  try simp only [Act.put, List.getElem_toArray, List.getElem_cons_zero, List.getElem_cons_succ, List.setIfInBounds_toArray, List.set_cons_zero, List.set_cons_succ]
  refine wpAnyH_take (i := 4) (v := ?_) rfl (by kernel_rfl) (by kernel_rfl) (by kernel_rfl) (fun _ _ _ h => h) (Or.inl ⟨by rfl, ?yta4⟩) (by assumption) ?qta4
  case yta4 => (intro wz hSw; (try dsimp only at hSw); go_simp <;> with_reducible rfl)
  try simp only [Act.put, List.getElem_toArray, List.getElem_cons_zero, List.getElem_cons_succ, List.setIfInBounds_toArray, List.set_cons_zero, List.set_cons_succ]
  refine wpAnyH_take (i := 5) (v := ?_) rfl (by kernel_rfl) (by kernel_rfl) (by kernel_rfl) (fun _ _ _ h => h) (Or.inl ⟨by rfl, ?yta5⟩) (by assumption) ?qta5
  case yta5 => (intro wz hSw; (try dsimp only at hSw); go_simp <;> with_reducible rfl)
  try simp only [Act.put, List.getElem_toArray, List.getElem_cons_zero, List.getElem_cons_succ, List.setIfInBounds_toArray, List.set_cons_zero, List.set_cons_succ]
  refine wpAnyH_take (i := 6) (v := ?_) rfl (by kernel_rfl) (by kernel_rfl) (by kernel_rfl) (fun _ _ _ h => h) (Or.inl ⟨by rfl, ?yta6⟩) (by assumption) ?qta6
  case yta6 => (intro wz hSw; (try dsimp only at hSw); go_simp <;> with_reducible rfl)
  try simp only [Act.put, List.getElem_toArray, List.getElem_cons_zero, List.getElem_cons_succ, List.setIfInBounds_toArray, List.set_cons_zero, List.set_cons_succ]
  refine wpAnyH_take (i := 7) (v := ?_) rfl (by kernel_rfl) (by kernel_rfl) (by kernel_rfl) (fun _ _ _ h => h) (Or.inl ⟨by rfl, ?yta7⟩) (by assumption) ?qta7
  case yta7 => (intro wz hSw; (try dsimp only at hSw); go_simp <;> with_reducible rfl)
  try simp only [Act.put, List.getElem_toArray, List.getElem_cons_zero, List.getElem_cons_succ, List.setIfInBounds_toArray, List.set_cons_zero, List.set_cons_succ]
  refine wpAnyH_ready (rs := [8]) (by kernel_rfl) (by simp) ?_
  refine AllReadyH.cons rfl (fun K hK => ?_) AllReadyH.nil
  go_simp
  refine (HCW.out _).mono ?_
  rintro e w5 ⟨rfl, hb5⟩
  have HB5 := Lib.hid hb5
  clear hb5
  refine hK.out _ _ (HS.out _ ((below_drewN (Below.refl _ _) 1).trans HB5.out)) (fun hHeldta8 => ?_)
  clear hK K
  try simp only [Act.put, List.getElem_toArray, List.getElem_cons_zero, List.getElem_cons_succ, List.setIfInBounds_toArray, List.set_cons_zero, List.set_cons_succ]
  refine wpAnyH_take (i := 9) (v := ?_) rfl (by kernel_rfl) (by kernel_rfl) (by kernel_rfl) (fun _ _ _ h => h) (Or.inl ⟨by rfl, ?yta9⟩) (by assumption) ?qta9
  case yta9 => (intro wz hSw; (try dsimp only at hSw); go_simp <;> with_reducible rfl)
  try simp only [Act.put, List.getElem_toArray, List.getElem_cons_zero, List.getElem_cons_succ, List.setIfInBounds_toArray, List.set_cons_zero, List.set_cons_succ]
  refine wpAnyH_done (by kernel_rfl) ?_ _
  have HF := Lib.hid ((below_drewN (Below.refl w.heap.size w) 1).trans HB5.out)
  clear hHeldta8 hHeld0 HS HCW
  go_wp2
  go_ret
  exact ⟨rfl, HF.out⟩
theorem cmpW_cases (x y : E) : (cmpW x y = 0 ∧ x = y) ∨ (cmpW x y = -1 ∧ ltE x y = true) ∨ (cmpW x y = 1 ∧ ltE y x = true) := by
  unfold cmpW
  cases e1 : ltE x y with
  | true => exact .inr (.inl ⟨rfl, rfl⟩)
  | false =>
    cases e2 : ltE y x with
    | true => exact .inr (.inr ⟨rfl, rfl⟩)
    | false =>
      refine .inl ⟨rfl, ?_⟩
      rcases totL.tri x y with h | h | h
      · rw [e1] at h; cases h
      · exact h
      · rw [e2] at h; cases h
theorem min_ret (a b : Nat) : Ending.returned (Value.int .i64 (min (a : Int) (b : Int))) = .returned (.int .i64 ((min a b : Nat) : Int)) := by rw [show min (a : Int) (b : Int) = ((min a b : Nat) : Int) by omega]
abbrev ltP (x y : E) : Prop := ltE x y = true
set_option maxRecDepth 100000 in
set_option maxHeartbeats 8000000 in
theorem least_any {w : World} {b n : Nat} {p : Option Addr} {c : Nat} {l : List E} (hbx : w.heap[b]? = some (.cells #[.slice p n c] 22)) (h : Eds w (.slice p n c) l) (hn : l.length = n) (hl : n ≤ 1000) (h0 : 0 < n) :
    Calls Tryd.prog 27 #[.int .i64 (n : Int), .func (.func 28) #[] #[.pointer (some ⟨b, 0, none⟩)]] w fun e w' => ∃ m : Nat, e = .returned (.int .i64 (m : Int)) ∧ IsFirst ltP (per zE l) n m ∧ Below w.heap.size w w' := by
  have HTT : Hid (∀ X, Below w.heap.size w X → ∀ i j : Nat, i < n → j < n → Calls Tryd.prog 28 (#[] ++ #[.int .i64 (i : Int), .int .i64 (j : Int)] ++ #[.pointer (some ⟨b, 0, none⟩)]) X fun e w' => e = .returned (.int .i64 (cmpW (l.getD i zE) (l.getD j zE))) ∧ Below X.heap.size X w') := Lib.hid fun X hX i j hi hj => turn1_any (keep_block hX hbx) (h.below hX) hn hi hj
  have HPER : Hid (∀ t, per zE l t = l.getD (t % n) zE) := Lib.hid fun t => by unfold per; rw [hn]
  have HTR : Hid (∀ x y z : E, ltP x y → ltP y z → ltP x z) := Lib.hid totL.tr
  have HIR : Hid (∀ x : E, ¬ ltP x x) := Lib.hid fun x h => by have := totL.irr x; rw [ltP, this] at h; cases h
  have HPP : Hid (∀ i, per zE l (i + n) = per zE l i) := Lib.hid fun i => by rw [← hn]; exact per_add i
  have HN1 := Lib.hid h0
  have hni : (n : Int) ≤ 1000 := by omega
  have hn0 : ((n : Int) == 0) = false := by rw [beq_eq_false_iff_ne]; omega
  have hn01 : ¬ (n : Int) = 0 := by omega
  have hn02 : ¬ n = 0 := by omega
  clear hbx h hn h0
  generalize per zE l = f at HPER HPP ⊢
  go_enter Tryd.func27, Tryd.ntmps27
  go_wp2_with fail
  go_loopw [5, 6, 7] (fun s5 s6 s7 wr => ∃ a b' s : Nat, s5 = .int .i64 (a : Int) ∧ s6 = .int .i64 (b' : Int) ∧ s7 = .int .i64 (s : Int) ∧ a ≤ 3000 ∧ b' ≤ 3000 ∧ Hid (Two ltP f n a b' s ∧ Below w.heap.size w wr)) (fun s5 s6 s7 _ => 5 * n - (2 * ((intOf s5).toNat + (intOf s6).toNat) + (intOf s7).toNat))
  case atStart => exact ⟨0, 1, 0, rfl, rfl, rfl, by omega, by omega, Lib.hid ⟨Two.start HN1.out, Below.refl _ _⟩⟩
  case round =>
    obtain ⟨a, b', s, rfl, rfl, rfl, ha3, hb3, HI⟩ := hrel
    have hsle := HI.out.1.le
    by_cases han : a < n
    · have hai : (a : Int) < (n : Int) := by omega
      by_cases hbn : b' < n
      · have hbi : (b' : Int) < (n : Int) := by omega
        by_cases hsn : s < n
        · have hsi : (s : Int) < (n : Int) := by omega
          obtain ⟨ia, hia⟩ : ∃ k, k = (a + s) % n := ⟨_, rfl⟩
          obtain ⟨ib, hib⟩ : ∃ k, k = (b' + s) % n := ⟨_, rfl⟩
          have hian : ia < n := by rw [hia]; exact Nat.mod_lt _ (by omega)
          have hibn : ib < n := by rw [hib]; exact Nat.mod_lt _ (by omega)
          have hma : ((a : Int) + (s : Int)).tmod (n : Int) = (ia : Int) := by rw [hia]; rfl
          have hmb : ((b' : Int) + (s : Int)).tmod (n : Int) = (ib : Int) := by rw [hib]; rfl
          have hwa : IntKind.i64.wrap ((a : Int) + (s : Int)) = (a : Int) + (s : Int) := by rw [IntKind.wrap_i64]; omega
          have hwb : IntKind.i64.wrap ((b' : Int) + (s : Int)) = (b' : Int) + (s : Int) := by rw [IntKind.wrap_i64]; omega
          have hwi : IntKind.i64.wrap (ia : Int) = (ia : Int) := by rw [IntKind.wrap_i64]; omega
          have hwj : IntKind.i64.wrap (ib : Int) = (ib : Int) := by rw [IntKind.wrap_i64]; omega
          have HT := Lib.hid (fun k => HTT.out (wr.drewN k) (below_drewN HI.out.2 k) ia ib hian hibn)
          have HCS := Lib.hid (cmpW_cases (l.getD ia zE) (l.getD ib zE))
          have HW := Lib.hid HI.out.2
          have HEQ : Hid (l.getD ia zE = l.getD ib zE → Two ltP f n a b' (s + 1)) := Lib.hid fun e => HI.out.1.same' hsn (by rw [HPER.out, HPER.out, ← hia, ← hib, e])
          have HGT : Hid (ltE (l.getD ib zE) (l.getD ia zE) = true → Two ltP f n (a + (s + 1)) (if a + (s + 1) = b' then b' + 1 else b') 0) := Lib.hid fun e => HI.out.1.worse hsn hbn (by rw [HPER.out, HPER.out, ← hia, ← hib]; exact e)
          have HLT : Hid (ltE (l.getD ia zE) (l.getD ib zE) = true → Two ltP f n (b' + (s + 1)) (if b' + (s + 1) = a then a + 1 else a) 0) := Lib.hid fun e => HI.out.1.swap.worse hsn han (by rw [HPER.out, HPER.out, ← hia, ← hib]; exact e)
          generalize cmpW (l.getD ia zE) (l.getD ib zE) = r at HT HCS
          generalize l.getD ia zE = x at HCS HEQ HGT HLT
          generalize l.getD ib zE = y at HCS HEQ HGT HLT
          clear HI hia hib
          go_upto_region 3 with fail
          refine wp_region_held_drew (S := fun _ => True) (by kernel_rfl) True.intro (fun hHeld0 => ?_)
          refine wpAnyH_take (i := 0) (v := ?_) rfl (by kernel_rfl) (by kernel_rfl) (by kernel_rfl) (fun _ _ _ h => h) (Or.inl ⟨by rfl, ?yle0⟩) (by assumption) ?qle0
          case yle0 => (intro wz hSw; (try dsimp only at hSw); go_simp <;> with_reducible rfl)
          try simp only [Act.put, List.getElem_toArray, List.getElem_cons_zero, List.setIfInBounds_toArray, List.set_cons_zero, List.set_cons_succ]
          refine wpAnyH_take (i := 1) (v := ?_) rfl (by kernel_rfl) (by kernel_rfl) (by kernel_rfl) (fun _ _ _ h => h) (Or.inl ⟨by rfl, ?yle1⟩) (by assumption) ?qle1
          case yle1 => (intro wz hSw; (try dsimp only at hSw); go_simp <;> with_reducible rfl)
          try simp only [Act.put, List.getElem_toArray, List.getElem_cons_zero, List.getElem_cons_succ, List.setIfInBounds_toArray, List.set_cons_zero, List.set_cons_succ]
          refine wpAnyH_take (i := 2) (v := ?_) rfl (by kernel_rfl) (by kernel_rfl) (by kernel_rfl) (fun _ _ _ h => h) (Or.inl ⟨by rfl, ?yle2⟩) (by assumption) ?qle2
          case yle2 => (intro wz hSw; (try dsimp only at hSw); go_simp <;> with_reducible rfl)
          try simp only [Act.put, List.getElem_toArray, List.getElem_cons_zero, List.getElem_cons_succ, List.setIfInBounds_toArray, List.set_cons_zero, List.set_cons_succ]
          refine wpAnyH_take (i := 3) (v := ?_) rfl (by kernel_rfl) (by kernel_rfl) (by kernel_rfl) (fun _ _ _ h => h) (Or.inl ⟨by rfl, ?yle3⟩) (by assumption) ?qle3
          case yle3 => (intro wz hSw; (try dsimp only at hSw); go_simp <;> with_reducible rfl)
          try simp only [Act.put, List.getElem_toArray, List.getElem_cons_zero, List.getElem_cons_succ, List.setIfInBounds_toArray, List.set_cons_zero, List.set_cons_succ]
          refine wpAnyH_take (i := 4) (v := ?_) rfl (by kernel_rfl) (by kernel_rfl) (by kernel_rfl) (fun _ _ _ h => h) (Or.inl ⟨by rfl, ?yle4⟩) (by assumption) ?qle4
          case yle4 => (intro wz hSw; (try dsimp only at hSw); go_simp <;> with_reducible rfl)
          try simp only [Act.put, List.getElem_toArray, List.getElem_cons_zero, List.getElem_cons_succ, List.setIfInBounds_toArray, List.set_cons_zero, List.set_cons_succ]
          refine wpAnyH_take (i := 5) (v := ?_) rfl (by kernel_rfl) (by kernel_rfl) (by kernel_rfl) (fun _ _ _ h => h) (Or.inl ⟨by rfl, ?yle5⟩) (by assumption) ?qle5
          case yle5 => (intro wz hSw; (try dsimp only at hSw); go_simp <;> with_reducible rfl)
          try simp only [Act.put, List.getElem_toArray, List.getElem_cons_zero, List.getElem_cons_succ, List.setIfInBounds_toArray, List.set_cons_zero, List.set_cons_succ]
          refine wpAnyH_take (i := 6) (v := ?_) rfl (by kernel_rfl) (by kernel_rfl) (by kernel_rfl) (fun _ _ _ h => h) (Or.inl ⟨by rfl, ?yle6⟩) (by assumption) ?qle6
          case yle6 => (intro wz hSw; (try dsimp only at hSw); go_simp <;> with_reducible rfl)
          try simp only [Act.put, List.getElem_toArray, List.getElem_cons_zero, List.getElem_cons_succ, List.setIfInBounds_toArray, List.set_cons_zero, List.set_cons_succ]
          refine wpAnyH_take (i := 7) (v := ?_) rfl (by kernel_rfl) (by kernel_rfl) (by kernel_rfl) (fun _ _ _ h => h) (Or.inl ⟨by rfl, ?yle7⟩) (by assumption) ?qle7
          case yle7 => (intro wz hSw; (try dsimp only at hSw); go_simp <;> with_reducible rfl)
          try simp only [Act.put, List.getElem_toArray, List.getElem_cons_zero, List.getElem_cons_succ, List.setIfInBounds_toArray, List.set_cons_zero, List.set_cons_succ]
          refine wpAnyH_take (i := 8) (v := ?_) rfl (by kernel_rfl) (by kernel_rfl) (by kernel_rfl) (fun _ _ _ h => h) (Or.inl ⟨by rfl, ?yle8⟩) (by assumption) ?qle8
          case yle8 => (intro wz hSw; (try dsimp only at hSw); go_simp <;> with_reducible rfl)
          try simp only [Act.put, List.getElem_toArray, List.getElem_cons_zero, List.getElem_cons_succ, List.setIfInBounds_toArray, List.set_cons_zero, List.set_cons_succ]
          refine wpAnyH_take (i := 9) (v := ?_) rfl (by kernel_rfl) (by kernel_rfl) (by kernel_rfl) (fun _ _ _ h => h) (Or.inl ⟨by rfl, ?yle9⟩) (by assumption) ?qle9
          case yle9 => (intro wz hSw; (try dsimp only at hSw); go_simp <;> with_reducible rfl)
          try simp only [Act.put, List.getElem_toArray, List.getElem_cons_zero, List.getElem_cons_succ, List.setIfInBounds_toArray, List.set_cons_zero, List.set_cons_succ]
          refine wpAnyH_take (i := 10) (v := ?_) rfl (by kernel_rfl) (by kernel_rfl) (by kernel_rfl) (fun _ _ _ h => h) (Or.inl ⟨by rfl, ?yle10⟩) (by assumption) ?qle10
          case yle10 => (intro wz hSw; (try dsimp only at hSw); go_simp <;> with_reducible rfl)
          try simp only [Act.put, List.getElem_toArray, List.getElem_cons_zero, List.getElem_cons_succ, List.setIfInBounds_toArray, List.set_cons_zero, List.set_cons_succ]
          refine wpAnyH_ready (rs := [11]) (by kernel_rfl) (by simp) ?_
          refine AllReadyH.cons rfl (fun K hK => ?_) AllReadyH.nil
          go_simp
          refine (HT.out _).mono ?_
          rintro e w5 ⟨rfl, hb5⟩
          have HB5 := Lib.hid hb5
          clear hb5
          refine hK.out _ _ (True.intro) (fun hHeldle11 => ?_)
          clear hK K
          try simp only [Act.put, List.getElem_toArray, List.getElem_cons_zero, List.getElem_cons_succ, List.setIfInBounds_toArray, List.set_cons_zero, List.set_cons_succ]
          refine wpAnyH_take (i := 12) (v := ?_) rfl (by kernel_rfl) (by kernel_rfl) (by kernel_rfl) (fun _ _ _ h => h) (Or.inl ⟨by rfl, ?yle12⟩) (by assumption) ?qle12
          case yle12 => (intro wz hSw; (try dsimp only at hSw); go_simp <;> with_reducible rfl)
          try simp only [Act.put, List.getElem_toArray, List.getElem_cons_zero, List.getElem_cons_succ, List.setIfInBounds_toArray, List.set_cons_zero, List.set_cons_succ]
          refine wpAnyH_done (by kernel_rfl) ?_ _
          have HB2 : Hid (Below w.heap.size w w5) := Lib.hid (HW.out.trans (((below_drewN (Below.refl wr.heap.size wr) 1).trans HB5.out).mono HW.out.size))
          clear hHeldle11 hHeld0 HT HB5 HW
          rcases HCS.out with ⟨hr, hx⟩ | ⟨hr, hx⟩ | ⟨hr, hx⟩
          · subst hr
            have HX := Lib.hid (HEQ.out hx)
            clear hx HCS HEQ HGT HLT
            go_wp2_with fail
            go_roundw
            case rel => exact ⟨a, b', s + 1, rfl, rfl, by go_num, ha3, hb3, Lib.hid ⟨HX.out, HB2.out⟩⟩
            case measure => simp [intOf]; omega
          · subst hr
            have HX := Lib.hid (HLT.out hx)
            clear hx HCS HEQ HGT HLT
            by_cases he : b' + (s + 1) = a
            · rw [if_pos he] at HX
              have hei : ((a : Int) == (b' : Int) + ((s : Int) + 1)) = true := by rw [beq_iff_eq]; omega
              have HX2 : Hid (Two ltP f n a (b' + (s + 1) + 1) 0) := Lib.hid (by have := HX.out; rw [he] at this ⊢; exact this)
              go_wp2_with fail
              go_roundw
              case rel => exact ⟨a, b' + (s + 1) + 1, 0, rfl, by go_num, rfl, by omega, by omega, Lib.hid ⟨HX2.out, HB2.out⟩⟩
              case measure => simp [intOf]; omega
            · rw [if_neg he] at HX
              have hei : ((a : Int) == (b' : Int) + ((s : Int) + 1)) = false := by rw [beq_eq_false_iff_ne]; omega
              go_wp2_with fail
              go_roundw
              case rel => exact ⟨a, b' + (s + 1), 0, rfl, by go_num, rfl, by omega, by omega, Lib.hid ⟨HX.out.swap, HB2.out⟩⟩
              case measure => simp [intOf]; omega
          · subst hr
            have HX := Lib.hid (HGT.out hx)
            clear hx HCS HEQ HGT HLT
            by_cases he : a + (s + 1) = b'
            · rw [if_pos he] at HX
              have hei : ((a : Int) + ((s : Int) + 1) == (b' : Int)) = true := by rw [beq_iff_eq]; omega
              go_wp2_with fail
              go_roundw
              case rel => exact ⟨a + (s + 1), b' + 1, 0, by go_num, by go_num, rfl, by omega, by omega, Lib.hid ⟨HX.out, HB2.out⟩⟩
              case measure => simp [intOf]; omega
            · rw [if_neg he] at HX
              have hei : ((a : Int) + ((s : Int) + 1) == (b' : Int)) = false := by rw [beq_eq_false_iff_ne]; omega
              go_wp2_with fail
              go_roundw
              case rel => exact ⟨a + (s + 1), b', 0, by go_num, rfl, rfl, by omega, by omega, Lib.hid ⟨HX.out, HB2.out⟩⟩
              case measure => simp [intOf]; omega
        · have hsn' : s = n := by omega
          subst hsn'
          have HR : Hid (IsFirst ltP f s (min a b') ∧ Below w.heap.size w wr) := Lib.hid ⟨HI.out.1.round_ HTR.out HIR.out HPP.out, HI.out.2⟩
          have hss : ¬ (s : Int) < (s : Int) := by omega
          clear HI hsn HTT HPER HPP
          go_wp2_with fail
          go_ret
          exact ⟨min a b', min_ret a b', HR.out.1, HR.out.2⟩
      · have hbi : ¬ (b' : Int) < (n : Int) := by omega
        have HR : Hid (IsFirst ltP f n (min a b') ∧ Below w.heap.size w wr) := Lib.hid ⟨HI.out.1.over HTR.out HIR.out HPP.out (.inr (by omega)), HI.out.2⟩
        clear HI hbn HTT HPER HPP
        go_wp2_with fail
        go_ret
        exact ⟨min a b', min_ret a b', HR.out.1, HR.out.2⟩
    · have hai : ¬ (a : Int) < (n : Int) := by omega
      have HR : Hid (IsFirst ltP f n (min a b') ∧ Below w.heap.size w wr) := Lib.hid ⟨HI.out.1.over HTR.out HIR.out HPP.out (.inl (by omega)), HI.out.2⟩
      clear HI han HTT HPER HPP
      go_wp2_with fail
      go_ret
      exact ⟨min a b', min_ret a b', HR.out.1, HR.out.2⟩
end Go.Proofs.YtjknnbeemcpppaaDoor.Wk
