/-
  Contracts of small functions, several texts laid into one. Not a statement of the seat.
-/
import Derived.Test.YtimgdkafennohaaHead8
import Derived.Test.YtimgdkafennohaaInsU
import Derived.Test.YtimgdkafennohaaInsB
import Derived.Test.YtimgdkafennohaaInsK
namespace Go.Proofs.Ytimgdkafennohaa.Ro
open Go.ChangeShapes Go.WideShapes Go.ChangeAt Go.RowKit Base
theorem zeroU (w : World) : (zeroValue 56).run Try.prog w = .ok (.int .u64 0) w := by kernel_rfl
/-- What Delete of one leaves. -/
def DelU (B i : Nat) (xs : List Value) (n : Nat) (v : Value) (w : World) (e : Ending) (w' : World) : Prop :=
  ∃ v', e = .returned v' ∧ w'.ownsRow B 56 1 v' (n - 1) (xs.take (i * 1) ++ xs.drop ((i + 1) * 1)) ∧ w.grownBy w' v.ownBlock ∧ v'.ownBlock = v.ownBlock
end Go.Proofs.Ytimgdkafennohaa.Ro
namespace Go.Proofs.Ytimgdkafennohaa.Ro
open Go.ChangeShapes Go.WideShapes Go.ChangeAt Go.RowKit Base
theorem zeroB (w : World) : (zeroValue 78).run Try.prog w = .ok (.slice none 0 0) w := by kernel_rfl
/-- What Delete of one leaves. -/
def DelB (B i : Nat) (xs : List Value) (n : Nat) (v : Value) (w : World) (e : Ending) (w' : World) : Prop :=
  ∃ v', e = .returned v' ∧ w'.ownsRow B 78 1 v' (n - 1) (xs.take (i * 1) ++ xs.drop ((i + 1) * 1)) ∧ w.grownBy w' v.ownBlock ∧ v'.ownBlock = v.ownBlock
end Go.Proofs.Ytimgdkafennohaa.Ro
namespace Go.Proofs.Ytimgdkafennohaa.Ro
open Go.ChangeShapes Go.WideShapes Go.ChangeAt Go.RowKit Base
theorem zeroK (w : World) : (zeroValue 73).run Try.prog w = .ok (.agg #[.int .i16 0, .int .i16 0, .int .i32 0, .int .i32 0, .int .i32 0, .int .i32 0]) w := by kernel_rfl
/-- What Delete of one leaves. -/
def DelK (B i : Nat) (xs : List Value) (n : Nat) (v : Value) (w : World) (e : Ending) (w' : World) : Prop :=
  ∃ v', e = .returned v' ∧ w'.ownsRow B 73 6 v' (n - 1) (xs.take (i * 6) ++ xs.drop ((i + 1) * 6)) ∧ w.grownBy w' v.ownBlock ∧ v'.ownBlock = v.ownBlock
set_option maxHeartbeats 4000000 in
set_option maxRecDepth 100000 in
theorem delK {B : Nat} {v : Value} {n : Nat} {xs : List Value} {w : World} (hown : w.ownsRow B 73 6 v n xs) (i : Nat) (hi : i < n) (hn : n ≤ 1000000) (hx1 : ∀ u ∈ xs, u.oneCell' = true) :
    Calls Try.prog 37 #[v, .int .i64 i, .int .i64 ((i : Int) + 1)] w (DelK B i xs n v w) := by
  obtain ⟨i0, hi0, hz0, hz1, hz2⟩ := info_parts infoK
  have hsz := sizeK
  rcases hown.2 with ⟨rfl, hn0⟩ | ⟨g, cap, cur, rfl, hbg, hg, hnc, hcm, hcs, htake⟩
  · omega
  have hc63 : (cap : Int) ≤ 9223372036854775807 := by simp only [maxLen] at hcm; omega
  have hxl := hown.1
  have hxc := hown.cells (g := g) rfl
  have hcl : cur.toList.length = cap * 6 := by rw [Array.length_toList, hcs]
  have hX : cur = cur.toList.toArray := by simp
  have hdl : (xs.drop ((i + 1) * 6)).length = (n - (i + 1)) * 6 := by rw [List.length_drop, hxl]; omega
  have hsrc : ∀ j u, (xs.drop ((i + 1) * 6))[j]? = some u → w.cell? ((⟨g, (i + 1) * 6, none⟩ : Addr).add j) = some u := fun j u hj => by
    rw [List.getElem?_drop] at hj
    have := hxc _ u hj
    rw [add_plain, Nat.zero_add] at this
    rw [add_plain]; exact this
  have hzl : (Value.cells (.agg #[.int .i16 0, .int .i16 0, .int .i32 0, .int .i32 0, .int .i32 0, .int .i32 0])).toList.length = 6 := by rfl
  have hpp := del_room (X := cur.toList) (xs := xs) (p := i * 6) (s := 6) (q := (n - (i + 1)) * 6) (by rw [hxl]; exact htake) (by omega) (by rw [hcl, hxl]; omega) (Value.cells (.agg #[.int .i16 0, .int .i16 0, .int .i32 0, .int .i32 0, .int .i32 0, .int .i32 0])).toList hzl
  have e1 : i * 6 + 6 = (i + 1) * 6 := by omega
  have e2 : i * 6 + (n - (i + 1)) * 6 = (n - 1) * 6 := by omega
  rw [e2, e1] at hpp
  have hin : i + (n - (i + 1)) = n - 1 := by omega
  obtain ⟨Y, hY⟩ : ∃ Y, Y = over cur.toList (i * 6) (xs.drop ((i + 1) * 6)) := ⟨_, rfl⟩
  have hYl : Y.length = cap * 6 := by rw [hY, over_len (by rw [hdl, hcl]; omega), hcl]
  obtain ⟨W1, hW1⟩ : ∃ W1, W1 = w.drew.setRow g Y.toArray := ⟨_, rfl⟩
  have hg1 : W1.heap[g]? = some (.cells Y.toArray 73 (0, 0)) := by rw [hW1]; exact setRow_heap w.drew g cur _ _ _ hg
  have hap : ∀ ad ty c, (n - (i + 1) = 0 ∨ ad = ⟨g, (i + 1) * 6, none⟩) → (Builtin.append_ #[45, 45] ty #[.slice (some ⟨g, 0, none⟩) i cap, .slice (some ad) (n - (i + 1)) c]).run Try.prog w.drew = .ok (.slice (some ⟨g, 0, none⟩) (n - 1) cap) W1 := fun ad ty c had => by
    have h := run_append_in (P := Try.prog) w.drew 45 45 ty 73 73 i0 6 Try.underlying45 Try.underlying45 hi0 hz1 g i cap cur.toList (by rw [← hX]; exact hg) ad (n - (i + 1)) c (xs.drop ((i + 1) * 6)) hdl (fun j u hj => by
      rcases had with h0 | h0
      · have := (List.getElem?_eq_some_iff.1 hj).1
        rw [hdl, h0] at this
        omega
      · have hs := hsrc j u hj
        rw [h0]; exact hs) (fun u hu => hx1 u (List.mem_of_mem_drop hu)) (by omega) (by rw [hdl, hcl]; omega)
    rw [hin, ← hY, ← hW1] at h
    exact h
  obtain ⟨Z, hZ⟩ : ∃ Z, Z = (over Y ((n - 1) * 6) (Value.cells (.agg #[.int .i16 0, .int .i16 0, .int .i32 0, .int .i32 0, .int .i32 0, .int .i32 0])).toList).toArray := ⟨_, rfl⟩
  have hcr : ∀ ty c, (Builtin.clear_ #[45] ty #[.slice (some ⟨g, (n - 1) * 6, none⟩) 1 c]).run Try.prog W1 = .ok (.tuple #[]) (W1.setRow g Z) := fun ty c => by
    have h := run_clear_in (P := Try.prog) W1 45 73 ty (.agg #[.int .i16 0, .int .i16 0, .int .i32 0, .int .i32 0, .int .i32 0, .int .i32 0]) 6 Try.underlying45 zeroK (by rfl) (by decide) g ((n - 1) * 6) c Y hg1 (by rw [hYl]; omega)
    rw [← hZ] at h
    simpa only [Nat.mul_one] using h
  have HP : Hid (DelK B i xs n (.slice (some ⟨g, 0, none⟩) n cap) w (.returned (.slice (some ⟨g, 0, none⟩) (n - 1) cap)) (W1.setRow g Z)) := Lib.hid (by
    subst hZ
    rw [← hY] at hpp
    refine ⟨_, rfl, ⟨?_, .inr ⟨g, cap, _, rfl, hbg, setRow_heap W1 g _ _ _ _ hg1, by omega, hcm, ?_, ?_⟩⟩, ⟨?_, ?_, ?_, ?_, fun k hk hne => ?_⟩, rfl⟩
    · rw [List.length_append, hdl, List.length_take, hxl]; omega
    · rw [List.size_toArray, hpp.2, hcl]
    · rw [List.toList_toArray]; exact hpp.1
    · rw [hW1]; rfl
    · rw [hW1]; rfl
    · rw [hW1]; rfl
    · rw [setRow_size, hW1, setRow_size]; exact Nat.le_refl _
    · have hkg : k ≠ g := fun e => hne (by rw [e]; rfl)
      rw [setRow_other _ _ _ _ hkg, hW1, setRow_other _ _ _ _ hkg]
      rfl)
  generalize DelK B i xs n (.slice (some ⟨g, 0, none⟩) n cap) w = Post at HP ⊢
  have HAP := Lib.hid hap
  have HCR := Lib.hid hcr
  have HNC := Lib.hid hnc
  clear hap hcr hpp hown hxc hsrc hdl hcl hX hg hcs htake hZ hW1 hg1 hi0 hz0 hz1 hz2 hx1 hxl e1 e2 hcm hbg hzl hY hYl hin
  have hb0 : (0 : Int) ≤ (i : Int) + 1 := by omega
  have hb1 : (i : Int) + 1 ≤ (n : Int) := by omega
  have hb2 : (i : Int) ≤ (i : Int) + 1 := by omega
  have hb3 : ¬ ((i : Int) = (i : Int) + 1) := by omega
  have hb4 : (n : Int) ≤ (cap : Int) := by omega
  have hb5 : (i : Int) ≤ (cap : Int) := by omega
  have hti : ((i : Int) + 1).toNat = i + 1 := by omega
  have hnn : n - (n - 1) = 1 := by omega
  have hb6 : ((n - 1 : Nat) : Int) ≤ (n : Int) := by omega
  have hcn : ¬ cap = n - 1 := by omega
  by_cases hlast : cap = i + 1
  · have hni : n = i + 1 := by have := HNC.out; omega
    subst hlast
    subst hni
    have hq := fun ty => HAP.out ⟨g, 0, none⟩ ty 0 (.inl (by omega))
    have hp := HP.out
    have hcr := HCR.out
    simp only [Nat.add_sub_cancel, Nat.sub_self] at hq hp hcr
    have HQ := Lib.hid hq
    have HPP := Lib.hid hp
    have HCC := Lib.hid hcr
    clear hq hp hcr HAP HP HCR HNC hb0 hb1 hb4 hb5 hb6 hcn hnn hi hnc hc63
    have hb0 : (0 : Int) ≤ (i : Int) + 1 := by omega
    have hb1 : (i : Int) ≤ (i : Int) + 1 := by omega
    go_enter Try.func37, Try.ntmps37
    go_wp2_with fail
    go_region_law (refine step_builtin_run .append rfl (.tmp 22) (.tmp 25) 45 45 rfl (.inl rfl) (by simp [Act.eval, Act.put]; rfl) (by simp [Act.eval, Act.put]; rfl) (by simp only [if_true]; exact HQ.out _) ?_)
    have hcr := HCC.out
    go_wp2
    exact HPP.out
  · have hq := fun ty c => HAP.out ⟨g, (i + 1) * 6, none⟩ ty c (.inr rfl)
    have HQ := Lib.hid hq
    clear hq HAP
    go_enter Try.func37, Try.ntmps37
    go_wp2_with fail
    go_region_law (refine step_builtin_run .append rfl (.tmp 22) (.tmp 25) 45 45 rfl (.inl rfl) (by simp [Act.eval, Act.put]; rfl) (by simp [Act.eval, Act.put]; rfl) (by simp only [if_true]; exact HQ.out _ _) ?_)
    have hcr := HCR.out
    go_wp2
    exact HP.out
end Go.Proofs.Ytimgdkafennohaa.Ro
