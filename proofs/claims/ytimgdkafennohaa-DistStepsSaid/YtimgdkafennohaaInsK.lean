/-
  slices.Insert of one element (K): a slice of the call's own takes it in between. Not a statement of the seat.
-/
import Derived.Test.YtimgdkafennohaaHead8
import Derived.Deep.OwnRows
import Derived.RegionTactic
import Derived.BigRegion
import Derived.WalkKit
import Derived.ProofKit
import Derived.Laws.Externs
namespace Go.Proofs.Ytimgdkafennohaa.Ro
open Go.ChangeShapes Go.WideShapes Go.ChangeAt Go.RowKit Base
theorem infoK : (Try.prog.info? 73).map (fun i => (i.zero, i.size, i.bytes)) = some (some (.agg #[.int .i16 0, .int .i16 0, .int .i32 0, .int .i32 0, .int .i32 0, .int .i32 0]), 6, 20) := by kernel_rfl
theorem sizeK (w : World) : (sizeOf 73).run Try.prog w = .ok 6 w := by kernel_rfl
/-- What Insert of one leaves. -/
def InsK (B i : Nat) (y xs : List Value) (n : Nat) (v : Value) (w : World) (e : Ending) (w' : World) : Prop :=
  ∃ v', e = .returned v' ∧ w'.ownsRow B 73 6 v' (n + 1) (xs.take (i * 6) ++ y ++ xs.drop (i * 6)) ∧ w.grownBy w' v.ownBlock ∧ (v'.ownBlock = v.ownBlock ∨ v'.ownBlock = some w.heap.size)
set_option maxHeartbeats 4000000 in
set_option maxRecDepth 100000 in
theorem insK {B g' : Nat} {v : Value} {n : Nat} {xs y : List Value} {w : World} (hown : w.ownsRow B 73 6 v n xs) (i : Nat) (hi : i ≤ n) (hn : n ≤ 1000000) (hB : B ≤ w.heap.size) (hy : y.length = 6)
    (hg' : w.heap[g']? = some (.cells y.toArray 73)) (h1 : ∀ u ∈ y, u.oneCell' = true) (hx1 : ∀ u ∈ xs, u.oneCell' = true) (hne : v.ownBlock ≠ some g') :
    Calls Try.prog 36 #[v, .int .i64 i, .slice (some ⟨g', 0, none⟩) 1 1] w (InsK B i y xs n v w) := by
  obtain ⟨i0, hi0, hz0, hz1, hz2⟩ := info_parts infoK
  have hnews : ∀ j u, y[j]? = some u → w.cell? ((⟨g', 0, none⟩ : Addr).add j) = some u := fun j u hj => by
    rw [add_plain]; simp [World.cell?, hg', hj]
  obtain ⟨v1, w1, hap, ho1, hg1, ha1⟩ := run_append_src w B 45 44 45 73 73 i0 _ 6 20 Try.underlying45 Try.underlying44 hi0 hz0 hz1 hz2 rfl v n xs hown ⟨g', 0, none⟩ 1 1 y (by omega) (by omega) hnews h1 (by simp only [maxLen]; omega) (by omega) hB
  have hsz := sizeK
  by_cases hin : i = n
  · have HP : Hid (InsK B i y xs n v w (.returned v1) w1) := Lib.hid ⟨v1, rfl, by rw [hin, List.take_of_length_le (by rw [hown.1]; omega), List.drop_of_length_le (by rw [hown.1]; omega), List.append_nil]; exact ho1, hg1, ha1⟩
    generalize InsK B i y xs n v w = Post at HP ⊢
    rcases hown.2 with ⟨rfl, hn0⟩ | ⟨g, cap, cur, rfl, hbg, hg, hnc, hcm, hcs, htake⟩
    · subst hin
      subst hn0
      clear hown hnews
      go_enter Try.func36, Try.ntmps36
      go_wp2_with (at_builtin; refine wp_builtin_run .append rfl (.tmp 23) (.tmp 24) 45 44 rfl (.inl rfl) rfl rfl (by simp only [if_true]; exact hap) ?_)
      exact HP.out
    · subst hin
      have hcs1 : cap = i ∨ ¬ cap = i := by omega
      have hic : i ≤ cap := hnc
      have hc63 : (cap : Int) ≤ 9223372036854775807 := by simp only [maxLen] at hcm; omega
      clear hown hnews hcm hcs htake hnc
      rcases hcs1 with hcs1 | hcs1
      · go_enter Try.func36, Try.ntmps36
        go_wp2_with (at_builtin; refine wp_builtin_run .append rfl (.tmp 23) (.tmp 24) 45 44 rfl (.inl rfl) rfl rfl (by simp only [if_true]; exact hap) ?_)
        exact HP.out
      · go_enter Try.func36, Try.ntmps36
        go_wp2_with (at_builtin; refine wp_builtin_run .append rfl (.tmp 23) (.tmp 24) 45 44 rfl (.inl rfl) rfl rfl (by simp only [if_true]; exact hap) ?_)
        exact HP.out
  · have hil : i < n := by omega
    clear hap ho1 hg1 ha1
    rcases hown.2 with ⟨rfl, hn0⟩ | ⟨g, cap, cur, rfl, hbg, hg, hnc, hcm, hcs, htake⟩
    · omega
    have hic : ¬ cap = i := by omega
    have hc63 : (cap : Int) ≤ 9223372036854775807 := by simp only [maxLen] at hcm; omega
    have hxl := hown.1
    have hgw : g < w.heap.size := heap_lt hg
    have hggw : g' < w.heap.size := heap_lt hg'
    have hgg : g' ≠ g := fun e => hne (by rw [e]; rfl)
    have hxc := hown.cells (g := g) rfl
    have hisz : (Try.prog.info? 73).map (·.size) = some 6 := by rw [hi0, Option.map_some, hz1]
    have hcl : cur.toList.length = cap * 6 := by rw [Array.length_toList, hcs]
    have hdl : (xs.drop (i * 6)).length = (n - i) * 6 := by rw [List.length_drop, hxl]; omega
    have hsrc : ∀ j u, (xs.drop (i * 6))[j]? = some u → w.cell? ((⟨g, i * 6, none⟩ : Addr).add j) = some u := fun j u hj => by
      rw [List.getElem?_drop] at hj
      have := hxc _ u hj
      rw [add_plain, Nat.zero_add] at this
      rw [add_plain]; exact this
    have hX : cur = cur.toList.toArray := by simp
    by_cases hroom : n + 1 ≤ cap
    · have hpp := ins_room (X := cur.toList) (xs := xs) (y := y) (p := i * 6) (s := 6) (q := (n - i) * 6) (by omega) (by rw [hxl]; exact htake) hy (by omega) (by rw [hcl]; omega)
      have e1 : i * 6 + 6 = (i + 1) * 6 := by omega
      have e2 : i * 6 + 6 + (n - i) * 6 = (n + 1) * 6 := by omega
      rw [e2, e1] at hpp
      have hg1 : (w.drew.setRow g (over cur.toList ((i + 1) * 6) (xs.drop (i * 6))).toArray).heap[g]? = some (.cells (over cur.toList ((i + 1) * 6) (xs.drop (i * 6))).toArray 73 (0, 0)) := setRow_heap w.drew g cur _ _ _ hg
      have hcp1 : ∀ ty dc sc, (Builtin.copy_ #[45, 45] ty #[.slice (some ⟨g, (i + 1) * 6, none⟩) (n - i) dc, .slice (some ⟨g, i * 6, none⟩) (n + 1 - i) sc]).run Try.prog w.drew = .ok (goInt (n - i : Nat)) (w.drew.setRow g (over cur.toList ((i + 1) * 6) (xs.drop (i * 6))).toArray) := fun ty dc sc => by
        have h := run_copy_S (P := Try.prog) w.drew 45 45 ty 73 g ((i + 1) * 6) (n - i) dc ⟨g, i * 6, none⟩ (n + 1 - i) sc cur.toList 73 (xs.drop (i * 6)) 6 (n - i) Try.underlying45 hisz (by rw [← hX]; exact hg) (by simp only [Nat.min_def]; split <;> omega) hdl hsrc (by rw [hdl, hcl]; omega) (fun u hu => hx1 u (List.mem_of_mem_drop hu))
        simpa only [Nat.mul_one] using h
      obtain ⟨Z, hZ⟩ : ∃ Z, Z = (over (over cur.toList ((i + 1) * 6) (xs.drop (i * 6))) (i * 6) y).toArray := ⟨_, rfl⟩
      obtain ⟨W1, hW1⟩ : ∃ W1, W1 = w.drew.setRow g (over cur.toList ((i + 1) * 6) (xs.drop (i * 6))).toArray := ⟨_, rfl⟩
      have hgn : W1.heap[g']? = some (.cells y.toArray 73) := by rw [hW1, setRow_other _ _ _ _ hgg]; exact hg'
      have hcp2 : ∀ (W : World), W.heap = W1.heap → ∀ ty dc, (Builtin.copy_ #[45, 44] ty #[.slice (some ⟨g, i * 6, none⟩) (n + 1 - i) dc, .slice (some ⟨g', 0, none⟩) 1 1]).run Try.prog W = .ok (goInt (1 : Nat)) (W.setRow g Z) := fun W hW ty dc => by
        have h := run_copy_S (P := Try.prog) W 45 44 ty 73 g (i * 6) (n + 1 - i) dc ⟨g', 0, none⟩ 1 1 (over cur.toList ((i + 1) * 6) (xs.drop (i * 6))) 73 y 6 1 Try.underlying45 hisz (by rw [hW, hW1]; exact hg1) (by simp only [Nat.min_def]; split <;> omega) (by rw [hy]) (fun j u hj => by rw [add_plain]; simp [World.cell?, hW, hgn, hj]) (by rw [over_len (by rw [hdl, hcl]; omega), hcl, hy]; omega) h1
        rw [← hZ] at h
        simpa only [Nat.mul_one] using h
      have hov : ∀ lb cb, (callFunc 56 #[.slice (some ⟨g', 0, none⟩) 1 1, .slice (some ⟨g, (i + 1) * 6, none⟩) lb cb]).run Try.prog w = .ok (.value (.bool false)) w := fun lb cb => by
        rw [run_callFunc_extern Try.func56 (by kernel_rfl) (by kernel_rfl) (by kernel_rfl) (e := Extern.SlicesOverlaps.overlaps #[44, 44] #[4]) (by kernel_rfl),
          Lib.run_overlaps_apart w 44 4 73 Try.underlying44 6 hsz ⟨g', 0, none⟩ ⟨g, (i + 1) * 6, none⟩ 1 1 lb cb hgg 73 73 6 (cap * 6) (by simp [World.shape?, hg', hy]) (by simp [World.shape?, hg, hcs]) (by omega) (by simp [World.frozen?, hg']) (by simp [World.frozen?, hg'])]
        rfl
      have HP : Hid (∀ W : World, W.heap = W1.heap → W.os = w.os → W.tape = w.drew.tape → W.output = w.output → InsK B i y xs n (.slice (some ⟨g, 0, none⟩) n cap) w (.returned (.slice (some ⟨g, 0, none⟩) (n + 1) cap)) (W.setRow g Z)) := Lib.hid fun W hW q1 q2 q3 => by
        subst hZ
        refine ⟨_, rfl, ⟨?_, .inr ⟨g, cap, _, rfl, hbg, setRow_heap W g _ _ _ _ (by rw [hW, hW1]; exact hg1), hroom, hcm, ?_, ?_⟩⟩, ⟨q1, q2, q3, ?_, fun k hk hne => ?_⟩, .inl rfl⟩
        · rw [List.length_append, List.length_append, hdl, List.length_take, hxl, hy]; omega
        · rw [List.size_toArray, hpp.2, hcl]
        · rw [List.toList_toArray]; exact hpp.1
        · rw [setRow_size, hW, hW1, setRow_size]; exact Nat.le_refl _
        · have hkg : k ≠ g := fun e => hne (by rw [e]; rfl)
          rw [setRow_other _ _ _ _ hkg, hW, hW1, setRow_other _ _ _ _ hkg]
          rfl
      rw [← hW1] at hcp1
      have HC1 := Lib.hid hcp1
      have HC2 := Lib.hid hcp2
      have HE : Hid (W1.os = w.os ∧ W1.tape = w.drew.tape ∧ W1.output = w.output) := Lib.hid (by rw [hW1]; exact ⟨rfl, rfl, rfl⟩)
      generalize InsK B i y xs n (.slice (some ⟨g, 0, none⟩) n cap) w = Post at HP ⊢
      have hcn : ¬ cap = i + 1 := by omega
      clear hpp hown hxc hsrc hnews hdl hcl hX hg hg' hcs htake hZ hW1 hg1 hgn hcp1 hcp2 hi0 hz0 hz1 hz2 hisz h1 hx1 hxl hne hy e1 e2 hcm hB hbg
      have hb5 : (i : Int) ≤ (n : Int) + 1 := by omega
      have hb0 : (0 : Int) ≤ (i : Int) + 1 := by omega
      have hb1 : (i : Int) + 1 ≤ (n : Int) + 1 := by omega
      have hb2 : (n : Int) + 1 ≤ (cap : Int) := by omega
      have htn : ((n : Int) + 1).toNat = n + 1 := by omega
      have hti : ((i : Int) + 1).toNat = i + 1 := by omega
      have hiw : IntKind.i64.wrap ((i : Int) + 1) = (i : Int) + 1 := by rw [IntKind.wrap_i64]; omega
      have hnw : IntKind.i64.wrap ((n : Int) + 1) = (n : Int) + 1 := by rw [IntKind.wrap_i64]; omega
      go_enter Try.func36, Try.ntmps36
      go_wp2_with fail
      go_region_law (refine step_builtin_run .copy rfl (.tmp 73) (.tmp 76) 45 45 rfl (.inr rfl) (by simp [Act.eval, Act.put]; rfl) (by simp [Act.eval, Act.put]; rfl) (by simp only [reduceCtorEq, if_false]; exact HC1.out _ _ _) ?_)
      have hq := HC2.out W1 rfl 3 (cap - i)
      have HPX := Lib.hid (HP.out W1 rfl HE.out.1 HE.out.2.1 HE.out.2.2)
      clear HP
      go_wp2
      exact HPX.out
    · obtain rfl : cap = n := by omega
      have hkk : (cap : Int) + 1 - (i : Int) = ((cap + 1 - i : Nat) : Int) := by omega
      have hik : i + (cap + 1 - i) = cap + 1 := by omega
      have hold : (Builtin.firstCells i0.size i (.slice (some ⟨g, 0, none⟩) i cap)).run Try.prog w.drew = .ok (xs.take (i * 6)).toArray w.drew := by
        rw [hz1]
        exact run_firstCells_some w.drew 6 i ⟨g, 0, none⟩ i cap (xs.take (i * 6)) (by rw [List.length_take]; omega) (fun j v hj => by
          rw [List.getElem?_take] at hj
          split at hj
          · exact hxc j v hj
          · cases hj)
      have hrz0 := fun ty => Lib.run_append_grow_zeros (P := Try.prog) w 45 3 ty 73 i0 _ .i64 .i64 Try.underlying45 Try.underlying3 hi0 hz0 (some ⟨g, 0, none⟩) i cap (xs.take (i * 6)) hold (cap + 1 - i) (by omega) (by omega) (by omega) (by omega) (by rw [hz2]; omega) (by rw [hz2, hik]; exact growslice_fits (by omega) (by omega))
      rw [hik, ← hkk] at hrz0
      obtain ⟨G, hG⟩ : ∃ G, G = grownCap w (cap + 1) cap 73 := ⟨_, rfl⟩
      have hGn : cap + 1 ≤ G := by rw [hG]; exact grownCap_ge w _ _ _
      have hGm : G ≤ maxLen := by rw [hG]; exact grownCap_le_maxLen w (cap + 1) cap _ (by unfold maxLen; omega)
      rw [← hG] at hrz0
      obtain ⟨ROW, hROW⟩ : ∃ ROW : List Value, ROW = xs.take (i * 6) ++ (Builtin.zeroCells (Value.cells (.agg #[.int .i16 0, .int .i16 0, .int .i32 0, .int .i32 0, .int .i32 0, .int .i32 0])) (cap + 1 - i)).toList ++ (Builtin.zeroCells (Value.cells (.agg #[.int .i16 0, .int .i16 0, .int .i32 0, .int .i32 0, .int .i32 0, .int .i32 0])) (G - (cap + 1))).toList := ⟨_, rfl⟩
      have hRa : (xs.take (i * 6)).toArray ++ Builtin.zeroCells (Value.cells (.agg #[.int .i16 0, .int .i16 0, .int .i32 0, .int .i32 0, .int .i32 0, .int .i32 0])) (cap + 1 - i) ++ Builtin.zeroCells (Value.cells (.agg #[.int .i16 0, .int .i16 0, .int .i32 0, .int .i32 0, .int .i32 0, .int .i32 0])) (G - (cap + 1)) = ROW.toArray := by rw [hROW]; simp
      have hRl : ROW.length = G * 6 := by
        have hzc : (Value.cells (.agg #[.int .i16 0, .int .i16 0, .int .i32 0, .int .i32 0, .int .i32 0, .int .i32 0])).size = 6 := by rfl
        have hzl : ∀ k, (Builtin.zeroCells (Value.cells (.agg #[.int .i16 0, .int .i16 0, .int .i32 0, .int .i32 0, .int .i32 0, .int .i32 0])) k).toList.length = k * 6 := fun k => by rw [Array.length_toList, size_zeroCells, hzc]
        rw [hROW, List.length_append, List.length_append, hzl, hzl, List.length_take]
        omega
      have hRt : ROW.take (i * 6) = xs.take (i * 6) := by
        rw [hROW, List.append_assoc]
        exact List.take_left' (by rw [List.length_take]; omega)
      simp only [hRa] at hrz0
      have hpp := ins_grow (ROW := ROW) (xs := xs) (y := y) (p := i * 6) (s := 6) (q := (cap - i) * 6) (by omega) hRt hy (by omega) (by rw [hRl]; omega)
      have e1 : i * 6 + 6 = (i + 1) * 6 := by omega
      have e2 : i * 6 + 6 + (cap - i) * 6 = (cap + 1) * 6 := by omega
      rw [e2, e1] at hpp
      obtain ⟨W1, hW1⟩ : ∃ W1, W1 = w.drew.alloc (.cells ROW.toArray 73) := ⟨_, rfl⟩
      rw [← hW1] at hrz0
      have hN : W1.heap[w.heap.size]? = some (.cells ROW.toArray 73 (0, 0)) := by rw [hW1]; exact heap_alloc_at w.drew _ _ rfl
      have hgn : ∀ k, k < w.heap.size → W1.heap[k]? = w.heap[k]? := fun k hk => by rw [hW1]; exact (((Below.refl _ _ : Below w.drew.heap.size w.drew w.drew).alloc (Nat.le_refl _) _).block k hk)
      have hcp1 : ∀ ty dc, (Builtin.copy_ #[45, 44] ty #[.slice (some ⟨w.heap.size, i * 6, none⟩) (cap + 1 - i) dc, .slice (some ⟨g', 0, none⟩) 1 1]).run Try.prog W1 = .ok (goInt (1 : Nat)) (W1.setRow w.heap.size (over ROW (i * 6) y).toArray) := fun ty dc => by
        have h := run_copy_S (P := Try.prog) W1 45 44 ty 73 w.heap.size (i * 6) (cap + 1 - i) dc ⟨g', 0, none⟩ 1 1 ROW 73 y 6 1 Try.underlying45 hisz hN (by simp only [Nat.min_def]; split <;> omega) (by rw [hy]) (fun j u hj => by rw [add_plain]; simp [World.cell?, hgn g' hggw, hg', hj]) (by rw [hRl, hy]; omega) h1
        simpa only [Nat.mul_one] using h
      obtain ⟨Z, hZ⟩ : ∃ Z, Z = (over (over ROW (i * 6) y) ((i + 1) * 6) (xs.drop (i * 6))).toArray := ⟨_, rfl⟩
      obtain ⟨W2, hW2⟩ : ∃ W2, W2 = W1.setRow w.heap.size (over ROW (i * 6) y).toArray := ⟨_, rfl⟩
      have hN2 : W2.heap[w.heap.size]? = some (.cells (over ROW (i * 6) y).toArray 73 (0, 0)) := by rw [hW2]; exact setRow_heap W1 _ _ _ _ _ hN
      have hg2 : W2.heap[g]? = w.heap[g]? := by rw [hW2, setRow_other _ _ _ _ (by omega), hgn g hgw]
      rw [← hW2] at hcp1
      have hcp2 : ∀ ty dc sc, (Builtin.copy_ #[45, 45] ty #[.slice (some ⟨w.heap.size, (i + 1) * 6, none⟩) (cap - i) dc, .slice (some ⟨g, i * 6, none⟩) (cap - i) sc]).run Try.prog W2.drew = .ok (goInt (cap - i : Nat)) (W2.drew.setRow w.heap.size Z) := fun ty dc sc => by
        have h := run_copy_S (P := Try.prog) W2.drew 45 45 ty 73 w.heap.size ((i + 1) * 6) (cap - i) dc ⟨g, i * 6, none⟩ (cap - i) sc (over ROW (i * 6) y) 73 (xs.drop (i * 6)) 6 (cap - i) Try.underlying45 hisz hN2 (by simp only [Nat.min_def]; split <;> omega) hdl (fun j u hj => by
          have := hsrc j u hj
          rw [add_plain] at this ⊢
          simp only [World.cell?] at this ⊢
          rw [show W2.drew.heap[g]? = w.heap[g]? from hg2]
          exact this) (by rw [over_len (by rw [hRl, hy]; omega), hRl, hdl]; omega) (fun u hu => hx1 u (List.mem_of_mem_drop hu))
        rw [← hZ] at h
        simpa only [Nat.mul_one] using h
      have HP : Hid (InsK B i y xs cap (.slice (some ⟨g, 0, none⟩) cap cap) w (.returned (.slice (some ⟨w.heap.size, 0, none⟩) (cap + 1) G)) (W2.drew.setRow w.heap.size Z)) := Lib.hid (by
        subst hZ
        refine ⟨_, rfl, ⟨?_, .inr ⟨w.heap.size, G, _, rfl, hB, setRow_heap W2.drew w.heap.size _ _ _ _ hN2, hGn, hGm, ?_, ?_⟩⟩, ⟨?_, ?_, ?_, ?_, fun k hk hne => ?_⟩, .inr rfl⟩
        · rw [List.length_append, List.length_append, hdl, List.length_take, hxl, hy]; omega
        · rw [List.size_toArray, hpp.2, hRl]
        · rw [List.toList_toArray]; exact hpp.1
        · rw [hW2, hW1]; rfl
        · rw [hW2, hW1]; rfl
        · rw [hW2, hW1]; rfl
        · rw [setRow_size, hW2]; show w.heap.size ≤ (W1.setRow _ _).heap.size; rw [setRow_size, hW1, World.size_alloc]; exact Nat.le_succ _
        · rw [setRow_other _ _ _ _ (by omega)]
          show W2.heap[k]? = _
          rw [hW2, setRow_other _ _ _ _ (by omega), hgn k hk])
      generalize InsK B i y xs cap (.slice (some ⟨g, 0, none⟩) cap cap) w = Post at HP ⊢
      have HAP := Lib.hid hrz0
      have HC2 := Lib.hid hcp2
      have hq := hcp1 3 (G - i)
      have hGi : ¬ G = i := by omega
      have hGi1 : ¬ G = i + 1 := by omega
      have hG63 : (G : Int) ≤ 9223372036854775807 := by simp only [maxLen] at hGm; omega
      clear hpp hown hxc hsrc hnews hdl hcl hX hg hg' hcs htake hZ hW1 hW2 hN hN2 hg2 hgn hcp1 hcp2 hi0 hz0 hz1 hz2 hisz h1 hx1 hxl hne hy e1 e2 hcm hB hbg hrz0 hold hG hROW hRa hRl hRt hkk hik hGm hnc
      have hb5 : (i : Int) ≤ (cap : Int) + 1 := by omega
      have hb6 : (i : Int) + 1 ≤ (cap : Int) + 1 := by omega
      have hb0 : (0 : Int) ≤ (i : Int) + 1 := by omega
      have hb7 : (i : Int) ≤ (cap : Int) := by omega
      have hti : ((i : Int) + 1).toNat = i + 1 := by omega
      have hiw : IntKind.i64.wrap ((i : Int) + 1) = (i : Int) + 1 := by rw [IntKind.wrap_i64]; omega
      have hnw : IntKind.i64.wrap ((cap : Int) + 1) = (cap : Int) + 1 := by rw [IntKind.wrap_i64]; omega
      have hnw2 : IntKind.i64.wrap ((cap : Int) + 1 - (i : Int)) = (cap : Int) + 1 - (i : Int) := by rw [IntKind.wrap_i64]; omega
      go_enter Try.func36, Try.ntmps36
      go_wp2_with (at_builtin; refine wp_builtin_run .append rfl (.tmp 34) (.tmp 39) 45 3 rfl (.inl rfl) rfl rfl (by simp only [if_true]; exact HAP.out _) ?_)
      go_region_law (refine step_builtin_run .copy rfl (.tmp 50) (.tmp 53) 45 45 rfl (.inr rfl) (by simp [Act.eval, Act.put]; rfl) (by simp [Act.eval, Act.put]; rfl) (by simp only [reduceCtorEq, if_false]; exact HC2.out _ _ _) ?_)
      go_wp2
      exact HP.out
end Go.Proofs.Ytimgdkafennohaa.Ro
