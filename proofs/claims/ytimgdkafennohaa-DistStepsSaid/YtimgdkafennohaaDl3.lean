/-
  Lists of numbers in at most one block: one is put where there is a block. Not a statement of the seat.
-/
import Derived.Test.YtimgdkafennohaaDl2
namespace Go.Proofs.Ytimgdkafennohaa.Dl
open Go.ChangeShapes Go.WideShapes Go.ChangeAt Go.RowKit Base Ro F
theorem held_fr {F : Nat → Prop} {w w' : World} (h : Hid (Fr F w w')) : Fr F w w' := h.out
set_option maxHeartbeats 4000000 in
set_option maxRecDepth 100000 in
theorem put_one {B b : Nat} {V N P : Value} {xs : List Nat} (x : Nat) (w : World) (h : LsAt w B V xs) (hne : xs ≠ []) (hg : GoodX xs) (hl : xs.length < 499) (hb : w.heap[b]? = some (grB V xs.length N P)) (hn : x ∉ xs) (hB : B ≤ w.heap.size) : Calls Try.prog 22 #[.pointer (some ⟨b, 0, none⟩), .int .u64 (x : Int)] w (PutP B b xs x N P w) := by
  have HS := Lib.hid (seek_any x w h hg (gr_cells hb).1 (heap_lt hb))
  have hm := seekV_mem hg.1 x
  rw [decide_eq_false hn] at hm
  have hx0 : 0 < xs.length := List.length_pos_iff.2 hne
  have hul := up_last hg.1 (x := x)
  rcases h with ⟨h0, _⟩ | ⟨_, g, cap, ho, hr⟩
  · exact absurd h0 hne
  obtain ⟨G, C, cur, rfl, hBG, hG, hC1, hCm, hcs, hc0⟩ := out_row ho
  obtain ⟨c2, hgo, hBg⟩ := row_blk hr
  have hbw := heap_lt hb
  have hGw := heap_lt hG
  have hgw := heap_lt hgo
  have hbG : b ≠ G := fun e => by rw [e, hG] at hb; simp [grB] at hb
  have hbg : b ≠ g := fun e => by rw [e, hgo] at hb; simp [grB] at hb
  have hGg : G ≠ g := fun e => by rw [e, hgo] at hG; simp at hG
  obtain ⟨d0, d1, d2, d3, d4⟩ := gr_cells hb
  have e0 : w.cell? ⟨G, 0, none⟩ = some (.slice (some ⟨g, 0, none⟩) xs.length cap) := by simp [World.cell?, hG, hc0]
  have e1 : w.frozen? ⟨G, 0, none⟩ = false := by simp [World.frozen?, hG]
  have HI : Hid (∀ w1, Below w.heap.size w w1 → Calls Try.prog 31 #[.slice (some ⟨g, 0, none⟩) xs.length cap, .int .i64 (posU xs x : Nat), .slice (some ⟨w1.heap.size, 0, none⟩) 1 1] (w1.alloc (.cells #[.int .u64 (x : Int)] 56)).drew fun e w' =>
      ∃ g' cap', e = .returned (.slice (some ⟨g', 0, none⟩) (xs.length + 1) cap') ∧ w'.ownsRow B 56 1 (.slice (some ⟨g', 0, none⟩) (xs.length + 1) cap') (xs.length + 1) (valsU (insX xs x)) ∧ Fr (fun h => h = g) w w' ∧ (g' = g ∨ w.heap.size ≤ g')) := Lib.hid fun w1 hb1 => by
    refine (ins_blk x (w := w1) (own_heap hr (hb1.block g hgw)) hg.2.1 (Nat.le_trans hB hb1.size)).mono ?_
    rintro e w' ⟨g', cap', he, h2, h3, h4⟩
    exact ⟨g', cap', he, h2, fr_one hb1 h3, h4.imp id (fun h => Nat.le_trans hb1.size h)⟩
  have HFIN : Hid (∀ (w3 : World) g' cap', w3.ownsRow B 56 1 (.slice (some ⟨g', 0, none⟩) (xs.length + 1) cap') (xs.length + 1) (valsU (insX xs x)) → Fr (fun h => h = g) w w3 → (g' = g ∨ w.heap.size ≤ g') →
      PutP B b xs x N P w (.returned (.bool true)) ((w3.setCell ⟨G, 0, none⟩ (.slice (some ⟨g', 0, none⟩) (xs.length + 1) cap')).setCell ⟨b, 1, none⟩ (.int .i64 ((xs.length : Int) + 1)))) := Lib.hid fun w3 g' cap' h2 h3 h4 => by
    have hil := insX_len xs x
    rw [← hil] at h2
    have := put_fin (m := xs.length + 1) (N := N) (P := P) (n := xs.length) hb rfl hG hBG hC1 hCm hcs ⟨c2, hgo⟩ hBg h3 h2 (insX_ne xs x) h4
    rw [hil] at this
    exact ⟨rfl, by simpa using this⟩
  have HCE : Hid (∀ w3 : World, Fr (fun h => h = g) w w3 → w3.cell? ⟨b, 0, none⟩ = some (.slice (some ⟨G, 0, none⟩) 1 C) ∧ w3.cell? ⟨b, 1, none⟩ = some (.int .i64 (xs.length : Int)) ∧ w3.cell? ⟨G, 0, none⟩ = some (.slice (some ⟨g, 0, none⟩) xs.length cap) ∧ w3.frozen? ⟨G, 0, none⟩ = false ∧ w3.frozen? ⟨b, 1, none⟩ = false) := Lib.hid fun w3 hf => by
    have a1 := hf.block hbw hbg
    have a2 := hf.block hGw hGg
    simp only [World.cell?, World.frozen?, a1, a2] at *
    exact ⟨d0, d1, e0, e1, d4 1⟩
  have HK : Hid (∀ Y, Fr (fun h => h = g) w Y → Y.cell? ⟨b, 0, none⟩ = some (.slice (some ⟨G, 0, none⟩) 1 C) ∧ Y.cell? ⟨G, 0, none⟩ = some (.slice (some ⟨g, 0, none⟩) xs.length cap) ∧ Y.frozen? ⟨G, 0, none⟩ = false) := Lib.hid fun Y h => ⟨(HCE.out Y h).1, (HCE.out Y h).2.2.1, (HCE.out Y h).2.2.2.1⟩
  have hl2 : xs.length + 1 < 512 := by omega
  have HSP : Hid (∀ (w3 : World) g' cap', Fr (fun h => h = g) w w3 → Calls Try.prog 32 #[.pointer (some ⟨b, 0, none⟩), .int .i64 0] ((w3.setCell ⟨G, 0, none⟩ (.slice (some ⟨g', 0, none⟩) (xs.length + 1) cap')).setCell ⟨b, 1, none⟩ (.int .i64 ((xs.length : Int) + 1))) fun e w' => e = .returned (.tuple #[]) ∧ w' = (w3.setCell ⟨G, 0, none⟩ (.slice (some ⟨g', 0, none⟩) (xs.length + 1) cap')).setCell ⟨b, 1, none⟩ (.int .i64 ((xs.length : Int) + 1))) := Lib.hid fun w3 g' cap' hf => by
    obtain ⟨z0, z1, z2, z3, z4⟩ := HCE.out w3 hf
    refine split_any (G := G) (C := C) (g := g') (cap := cap') hl2 ?_ ?_
    · rw [World.cell?_setCell_other _ _ _ _ (by simp), World.cell?_setCell_other _ _ _ _ (by first | (simp; done) | (simp; exact fun e => absurd e hbG.symm))]; exact z0
    · rw [World.cell?_setCell_other _ _ _ _ (by first | (simp; done) | (simp; exact fun e => absurd e hbG))]
      exact World.cell?_setCell_same _ _ _ z2
  unfold SeekP seekV at HS
  rw [if_neg hne] at HS
  obtain ⟨n, hnl⟩ : ∃ n, n = xs.length := ⟨_, rfl⟩
  have HFR : Hid (∀ w1, Below w.heap.size w w1 → Fr (fun h => h = g) w w1) := Lib.hid fun w1 h => Fr.of_below h
  clear hb hG hgo hc0 hr ho hn hg d2 d3 d4 hbw hGw hgw
  by_cases hz : xs.getD (xs.length - 1) 0 < x
  · rw [if_pos hz] at HS
    rw [hul hz] at HI
    dsimp only at HS
    generalize PutP B b xs x N P w = Post at HFIN ⊢
    generalize valsU (insX xs x) = vs at HI HFIN
    rw [← hnl] at HI HFIN HCE HK HSP d1 e0 hl2 hx0 hl
    clear hul hm hz hnl hne
    go_enter Try.func22, Try.ntmps22
    go_wp2_with fail
    refine HS.out.mono ?_
    rintro e w1 ⟨rfl, hb1⟩
    have HB1 := Lib.hid hb1
    obtain ⟨b0, b1, b2, b3, b4⟩ := HCE.out w1 (HFR.out w1 hb1)
    clear hb1
    go_wp2_with fail
    have q0 : ∀ o, (w1.alloc o).cell? ⟨b, 0, none⟩ = some (.slice (some ⟨G, 0, none⟩) 1 C) := fun o => (HK.out _ (HFR.out _ (HB1.out.alloc HB1.out.size o))).1
    have q1 : ∀ o, (w1.alloc o).cell? ⟨G, 0, none⟩ = some (.slice (some ⟨g, 0, none⟩) n cap) := fun o => (HK.out _ (HFR.out _ (HB1.out.alloc HB1.out.size o))).2.1
    go_region_with (go_at_call 31; ((with_reducible refine (HI.out w1 HB1.out).mono ?_); rintro e w3 ⟨g', cap', rfl, ho3, hf3, hg3⟩; have HF3 := Lib.hid hf3; have HO3 := Lib.hid ho3; have HG3 := Lib.hid hg3; obtain ⟨z0, z1, z2, z3, z4⟩ := HCE.out w3 hf3; clear hf3 ho3 hg3))
    all_goals (
      have hGb : G ≠ b := Ne.symm hbG
      go_wp2_with fail
      refine (HSP.out w3 g' cap' HF3.out).mono ?_
      rintro e w5 ⟨rfl, rfl⟩
      go_wp2
      exact HFIN.out w3 g' cap' HO3.out HF3.out HG3.out)
  · rw [if_neg hz] at HS
    have hr3 := hm
    unfold seekV at hr3
    rw [if_neg hne, if_neg hz] at hr3
    dsimp only at hr3
    rw [hr3] at HS
    dsimp only at HS
    generalize PutP B b xs x N P w = Post at HFIN ⊢
    generalize valsU (insX xs x) = vs at HI HFIN
    generalize posU xs x = r at HI HS
    rw [← hnl] at HI HFIN HCE HK HSP d1 e0 hl2 hx0 hl
    clear hul hm hz hnl hne hr3
    go_enter Try.func22, Try.ntmps22
    go_wp2_with fail
    refine HS.out.mono ?_
    rintro e w1 ⟨rfl, hb1⟩
    have HB1 := Lib.hid hb1
    obtain ⟨b0, b1, b2, b3, b4⟩ := HCE.out w1 (HFR.out w1 hb1)
    clear hb1
    go_wp2_with fail
    have q0 : ∀ o, (w1.alloc o).cell? ⟨b, 0, none⟩ = some (.slice (some ⟨G, 0, none⟩) 1 C) := fun o => (HK.out _ (HFR.out _ (HB1.out.alloc HB1.out.size o))).1
    have q1 : ∀ o, (w1.alloc o).cell? ⟨G, 0, none⟩ = some (.slice (some ⟨g, 0, none⟩) n cap) := fun o => (HK.out _ (HFR.out _ (HB1.out.alloc HB1.out.size o))).2.1
    go_region_with (go_at_call 31; ((with_reducible refine (HI.out w1 HB1.out).mono ?_); rintro e w3 ⟨g', cap', rfl, ho3, hf3, hg3⟩; have HF3 := Lib.hid hf3; have HO3 := Lib.hid ho3; have HG3 := Lib.hid hg3; obtain ⟨z0, z1, z2, z3, z4⟩ := HCE.out w3 hf3; clear hf3 ho3 hg3))
    all_goals (
      have hGb : G ≠ b := Ne.symm hbG
      go_wp2_with fail
      refine (HSP.out w3 g' cap' HF3.out).mono ?_
      rintro e w5 ⟨rfl, rfl⟩
      go_wp2
      exact HFIN.out w3 g' cap' HO3.out HF3.out HG3.out)
end Go.Proofs.Ytimgdkafennohaa.Dl
