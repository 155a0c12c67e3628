/-
  Walks: contracts of slices.Grow and slices.Concat, at edges. Not a statement of the seat.
-/
import Derived.Test.YtjknnbeemcpppaaDoorWk9
import Derived.Lib.AppendZerosOnto
import Derived.Lib.SliceRun
import Derived.Lib.Walk
namespace Go.Proofs.YtjknnbeemcpppaaDoor.Wk
open Go.ChangeShapes Go.WideShapes Go.ChangeAt Go.RowKit Base Go.Lib Pk F
set_option maxRecDepth 100000 in
set_option maxHeartbeats 4000000 in
theorem grow_none (w : World) : Calls Tryd.prog 41 #[.slice none 0 0, .int .i64 0] w (OwnP [] w) := by
  have HF : Hid (OwnP [] w (.returned (.slice none 0 0)) w) := Lib.hid ⟨_, rfl, OwnE.nil _ _, Below.refl _ _⟩
  go_enter Tryd.func41, Tryd.ntmps41
  go_wp2
  go_ret
  exact HF.out
set_option maxRecDepth 100000 in
set_option maxHeartbeats 4000000 in
theorem grow_some (n : Nat) (h0 : 0 < n) (hn : n ≤ 4000) (w : World) : Calls Tryd.prog 41 #[.slice none 0 0, .int .i64 (n : Int)] w (OwnP [] w) := by
  obtain ⟨i0, hi, hz0, hz1, hz2⟩ := info_parts info
  have hold : (Builtin.firstCells i0.size 0 (.slice none 0 0)).run Tryd.prog w.drew = .ok ([] : List Value).toArray w.drew := run_firstCells_none w.drew i0.size 0 0 0
  have hrz : ∀ ty, (Builtin.append_ #[22, 3] ty #[.slice none 0 0, .int .i64 (n : Int)]).run Tryd.prog w = _ := fun ty =>
    Lib.run_append_grow_zeros w 22 3 ty 32 i0 _ .i64 .i64 Tryd.underlying22 Tryd.underlying3 hi hz0 none 0 0 [] hold n h0 (by omega) (by omega) (by omega) (by rw [hz2]; omega) (growslice_fits (by omega) (by rw [hz2]; omega))
  have hge : 0 + n ≤ grownCap w (0 + n) 0 32 := grownCap_ge w _ _ _
  have hle : grownCap w (0 + n) 0 32 ≤ maxLen := grownCap_le_maxLen w _ _ _ (by simp only [maxLen]; omega)
  rw [Nat.zero_add] at hrz hge hle
  obtain ⟨G, hG⟩ : ∃ G, G = grownCap w n 0 32 := ⟨_, rfl⟩
  rw [← hG] at hrz hge hle
  obtain ⟨cur, hcur⟩ : ∃ cur, cur = (([] : List Value).toArray ++ Builtin.zeroCells (Value.agg #[.int .i64 0, .int .i64 0, .int .i64 0, .int .i64 0]).cells n ++ Builtin.zeroCells (Value.agg #[.int .i64 0, .int .i64 0, .int .i64 0, .int .i64 0]).cells (G - n)) := ⟨_, rfl⟩
  rw [← hcur] at hrz
  have hcz : cur.size = G * 4 := by
    rw [hcur, Array.size_append, Array.size_append, size_zeroCells, size_zeroCells]
    have : (Value.agg #[.int .i64 0, .int .i64 0, .int .i64 0, .int .i64 0] : Value).cells.size = 4 := rfl
    rw [this]
    simp
    omega
  have HF : Hid (OwnP [] w (.returned (.slice (some ⟨w.heap.size, 0, none⟩) 0 G)) (w.drew.alloc (.cells cur 32))) := Lib.hid ⟨_, rfl, ⟨rfl, .inr ⟨_, G, cur, rfl, Nat.le_refl _, heap_alloc_at _ _ _ rfl, Nat.zero_le _, hle, hcz, rfl⟩⟩, ((below_drewN (Below.refl w.heap.size w) 1)).alloc (Nat.le_refl _) _⟩
  have hs0 : ∀ wx, (Instr.sliceAt 22 (.slice none 0 0) none (some (.int .i64 0)) none).run Tryd.prog wx = .ok (.slice none 0 0) wx := fun wx => slice_take none 0 0 0 (Nat.le_refl _) wx
  have hs1 : ∀ wx, (Instr.sliceAt 22 (.slice (some ⟨w.heap.size, 0, none⟩) n G) none (some (.int .i64 0)) none).run Tryd.prog wx = .ok (.slice (some ⟨w.heap.size, 0, none⟩) 0 G) wx := fun wx => slice_take _ n G 0 (Nat.zero_le _) wx
  have hnp : (0 : Int) < (n : Int) := by omega
  have hnn : ¬ (n : Int) < 0 := by omega
  have HRZ := Lib.hid hrz
  clear hrz hold hcz hcur hG hle hge
  go_enter Tryd.func41, Tryd.ntmps41
  go_wp2_with (at_builtin; refine Lib.wpList_append_run _ rfl _ _ _ _ rfl _ _ rfl rfl _ _ (HRZ.out _) ?_)
  go_ret
  exact HF.out
/-- Room for n is made of nothing. -/
theorem grow_any (n : Nat) (hn : n ≤ 4000) (w : World) : Calls Tryd.prog 41 #[.slice none 0 0, .int .i64 (n : Int)] w (OwnP [] w) := by
  rcases Nat.eq_zero_or_pos n with rfl | h
  · exact grow_none w
  · exact grow_some n h hn w
set_option maxRecDepth 100000 in
set_option maxHeartbeats 4000000 in
theorem concat_any {w : World} {g n1 n2 c1 c2 : Nat} {p1 p2 : Option Addr} {xs ys : List E} (hg : w.heap[g]? = some (.cells #[.slice p1 n1 c1, .slice p2 n2 c2] 22)) (hx : Eds w (.slice p1 n1 c1) xs) (hy : Eds w (.slice p2 n2 c2) ys) (h1 : p1 = none → c1 = 0) (h2 : p2 = none → c2 = 0) (hn1 : xs.length = n1) (hn2 : ys.length = n2) (hl1 : n1 ≤ 1000) (hl2 : n2 ≤ 1000) :
    Calls Tryd.prog 29 #[.slice (some ⟨g, 0, none⟩) 2 2] w (OwnP (xs ++ ys) w) := by
  have HC : Hid (∀ X, Below w.heap.size w X → g < X.heap.size ∧ X.cell? ⟨g, 0, none⟩ = some (.slice p1 n1 c1) ∧ X.cell? ⟨g, 1, none⟩ = some (.slice p2 n2 c2)) := Lib.hid fun X hX => by
    have k := keep_block hX hg
    exact ⟨heap_lt k, by simp [World.cell?, k], by simp [World.cell?, k]⟩
  have HX : Hid (∀ X, Below w.heap.size w X → Eds X (.slice p1 n1 c1) xs ∧ Eds X (.slice p2 n2 c2) ys) := Lib.hid fun X hX => ⟨hx.below hX, hy.below hX⟩
  have HN : Hid ((∀ n c, Value.slice p1 n1 c1 = .slice none n c → c = 0) ∧ (∀ n c, Value.slice p2 n2 c2 = .slice none n c → c = 0) ∧ xs.length = n1 ∧ ys.length = n2) := Lib.hid ⟨fun n c e => by injection e with e1 e2 e3; rw [← e3]; exact h1 e1, fun n c e => by injection e with e1 e2 e3; rw [← e3]; exact h2 e1, hn1, hn2⟩
  have HG : Hid (Calls Tryd.prog 41 #[.slice none 0 0, .int .i64 ((n1 : Int) + (n2 : Int))] w (OwnP [] w)) := Lib.hid (by
    have := grow_any (n1 + n2) (by omega) w
    rwa [Int.natCast_add] at this)
  obtain ⟨hgl, k0, k1⟩ := HC.out w (Below.refl _ _)
  have hw1 : IntKind.i64.wrap (n1 : Int) = (n1 : Int) := by rw [IntKind.wrap_i64]; omega
  have hw2 : IntKind.i64.wrap ((n1 : Int) + (n2 : Int)) = (n1 : Int) + (n2 : Int) := by rw [IntKind.wrap_i64]; omega
  have hp1 : ¬ (n1 : Int) < 0 := by omega
  have hp2 : ¬ (n1 : Int) + (n2 : Int) < 0 := by omega
  clear hg hx hy h1 h2 hn1 hn2
  go_enter Tryd.func29, Tryd.ntmps29
  go_wp2_with fail
  go_loopw [3, 11] (fun s3 s11 wr => wr = w ∧ ((s11 = .int .i64 0 ∧ s3 = .int .i64 0) ∨ (s11 = .int .i64 1 ∧ s3 = .int .i64 (n1 : Int)) ∨ (s11 = .int .i64 2 ∧ s3 = .int .i64 ((n1 : Int) + (n2 : Int))))) (fun _ s11 _ => 2 - (intOf s11).toNat)
  case atStart => exact ⟨rfl, .inl ⟨rfl, rfl⟩⟩
  case round =>
    obtain ⟨rfl, ⟨rfl, rfl⟩ | ⟨rfl, rfl⟩ | ⟨rfl, rfl⟩⟩ := hrel
    · go_wp2_with fail
      go_roundw
      case rel => exact ⟨trivial, by simp⟩
      case measure => simp [intOf]
    · go_wp2_with fail
      go_roundw
      case rel => exact ⟨trivial, by simp⟩
      case measure => simp [intOf]
    · rename World => wo
      clear k0 k1 hgl
      go_wp2_with fail
      refine HG.out.mono ?_
      rintro e w1 ⟨v0, rfl, ho0, hb0⟩
      have HO0 := Lib.hid (And.intro ho0 hb0)
      clear ho0 hb0 HG
      go_wp2_with fail
      go_loopw [6, 27] (fun s6 s27 wt => ∃ v, v = s6 ∧ Hid (Below wo.heap.size wo wt) ∧ ((s27 = .int .i64 0 ∧ Hid (OwnE wo.heap.size wt v [])) ∨ (s27 = .int .i64 1 ∧ Hid (OwnE wo.heap.size wt v xs)) ∨ (s27 = .int .i64 2 ∧ Hid (OwnE wo.heap.size wt v (xs ++ ys))))) (fun _ s27 _ => 2 - (intOf s27).toNat)
      case atStart => exact ⟨_, rfl, Lib.hid HO0.out.2, .inl ⟨rfl, Lib.hid HO0.out.1⟩⟩
      case round =>
        clear HO0
        obtain ⟨v, hv, HB, ⟨rfl, HO⟩ | ⟨rfl, HO⟩ | ⟨rfl, HO⟩⟩ := hrel
        · subst hv
          obtain ⟨hgl, k0, k1⟩ := HC.out wr HB.out
          go_wp2_with (at_builtin; refine append_eds rfl _ _ rfl (B := wo.heap.size) (zs := []) HB.out.size HO.out rfl (HX.out _ HB.out).1 HN.out.1 rfl (by have := HN.out.2.2.1; simp; omega) ?_; intro v1 w1 ho1 hg1 hat1)
          rw [List.nil_append] at ho1
          have HO1 := Lib.hid ho1
          have HB1 := Lib.hid (HB.out.grown hg1 HB.out.size (own_base HO.out))
          clear ho1 hg1 hat1 k0 k1 hgl HO HB
          go_wp2_with fail
          go_roundw
          case rel => exact ⟨_, rfl, HB1, by first | exact .inr (.inl ⟨by simp, HO1⟩) | (simp; exact HO1)⟩
          case measure => simp [intOf]
        · subst hv
          obtain ⟨hgl, k0, k1⟩ := HC.out wr HB.out
          go_wp2_with (at_builtin; refine append_eds rfl _ _ rfl (B := wo.heap.size) (zs := xs) HB.out.size HO.out rfl (HX.out _ HB.out).2 HN.out.2.1 rfl (by have := HN.out.2.2.1; have := HN.out.2.2.2; omega) ?_; intro v1 w1 ho1 hg1 hat1)
          have HO1 := Lib.hid ho1
          have HB1 := Lib.hid (HB.out.grown hg1 HB.out.size (own_base HO.out))
          clear ho1 hg1 hat1 k0 k1 hgl HO HB
          go_wp2_with fail
          go_roundw
          case rel => exact ⟨_, rfl, HB1, by first | exact .inr (.inr ⟨by simp, HO1⟩) | (simp; exact HO1)⟩
          case measure => simp [intOf]
        · have HF : Hid (OwnP (xs ++ ys) wo (.returned v) wr) := Lib.hid ⟨v, rfl, HO.out, HB.out⟩
          subst hv
          clear HO HB
          go_wp2
          go_ret
          exact HF.out
end Go.Proofs.YtjknnbeemcpppaaDoor.Wk
