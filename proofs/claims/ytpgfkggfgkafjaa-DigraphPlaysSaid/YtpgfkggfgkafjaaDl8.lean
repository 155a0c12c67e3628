/-
  Lists of numbers in at most one block: the only one is dropped. Not a statement of the seat.
-/
import Derived.Test.YtpgfkggfgkafjaaHead6
namespace Go.Proofs.Ytpgfkggfgkafjaa.Dl
open Go.ChangeShapes Go.WideShapes Go.ChangeAt Go.RowKit Base Ro F
/-- The only number taken out: no block is left. -/
theorem drop_end {w w3 w4 : World} {B b n G g cap' : Nat} {V N P v' : Value} {cur : Array Value} (hb : w.heap[b]? = some (grB V n N P)) (hG : w.heap[G]? = some (.cells cur 72 (0, 0))) (hBG : B ≤ G)
    (hg : ∃ c2, w.heap[g]? = some (.cells c2 58 (0, 0))) (hBg : B ≤ g) (hf : Fr (fun h => h = g) w w3) (ho : w4.ownsRow B 72 1 v' 0 []) (hgr : (w3.setCell ⟨G, 0, none⟩ (.slice (some ⟨g, 0, none⟩) 0 cap')).grownBy w4 (some G)) (hv : v'.ownBlock = some G) :
    ∃ V', ((w4.setCell ⟨b, 0, none⟩ v').setCell ⟨b, 1, none⟩ (.int .i64 0)).heap[b]? = some (grB V' 0 N P) ∧ LsAt ((w4.setCell ⟨b, 0, none⟩ v').setCell ⟨b, 1, none⟩ (.int .i64 0)) B V' [] ∧ Fr (LF w B b) w ((w4.setCell ⟨b, 0, none⟩ v').setCell ⟨b, 1, none⟩ (.int .i64 0)) := by
  obtain ⟨c2, hg⟩ := hg
  have hbG : b ≠ G := fun e => by rw [e, hG] at hb; simp [grB] at hb
  have hbg : b ≠ g := fun e => by rw [e, hg] at hb; simp [grB] at hb
  have hbw := heap_lt hb
  have hb3 : w3.heap[b]? = some (grB V n N P) := (hf.block hbw hbg).trans hb
  have hs3 : (w3.setCell ⟨G, 0, none⟩ (.slice (some ⟨g, 0, none⟩) 0 cap')).heap.size = w3.heap.size := by simp [World.setCell]
  have hb4 : w4.heap[b]? = some (grB V n N P) := by
    rw [hgr.block b (by rw [hs3]; exact Nat.lt_of_lt_of_le hbw hf.size) (by simpa using hbG), Below.heap_setCell _ _ _ _ hbG]; exact hb3
  obtain ⟨W, hW⟩ : ∃ W, W = (w4.setCell ⟨b, 0, none⟩ v').setCell ⟨b, 1, none⟩ (.int .i64 0) := ⟨_, rfl⟩
  have hoth : ∀ h, h ≠ b → W.heap[h]? = w4.heap[h]? := fun h h1 => by rw [hW, Below.heap_setCell _ _ _ _ h1, Below.heap_setCell _ _ _ _ h1]
  have hWb : W.heap[b]? = some (grB v' 0 N P) := by
    rw [hW]
    have h1 : (w4.setCell ⟨b, 0, none⟩ v').heap[b]? = some (grB v' n N P) := by
      simp only [World.setCell, Array.getElem?_modify, if_true, hb4, Option.map_some]
      rfl
    generalize w4.setCell ⟨b, 0, none⟩ v' = Y at h1
    simp only [World.setCell, Array.getElem?_modify, if_true, h1, Option.map_some]
    rfl
  rw [← hW]
  refine ⟨v', hWb, .inl ⟨rfl, ho.1, ?_⟩, ⟨?_, ?_, ?_, ?_, fun h hlt hn => ?_⟩⟩
  · rcases ho.2 with h2 | ⟨g2, cap, cur2, h1, h2, h3, h4⟩
    · exact .inl h2
    · have e : g2 = G := by rw [h1] at hv; simpa [Value.ownBlock] using hv
      exact .inr ⟨g2, cap, cur2, h1, h2, (hoth g2 (by rw [e]; exact Ne.symm hbG)).trans h3, h4⟩
  · rw [hW]; exact hgr.os.trans hf.1
  · rw [hW]; exact hgr.tape.trans hf.2.1
  · rw [hW]; exact hgr.output.trans hf.2.2.1
  · have := hgr.size
    have h5 : W.heap.size = w4.heap.size := by rw [hW]; simp [World.setCell]
    have := hf.size
    omega
  · have n1 : h ≠ b := fun e => hn (.inl e)
    have n2 : h ≠ G := fun e => hn (.inr ⟨e ▸ hBG, cur, _, e ▸ hG, .inr rfl⟩)
    have n3 : h ≠ g := fun e => hn (.inr ⟨e ▸ hBg, c2, _, e ▸ hg, .inl rfl⟩)
    rw [hoth h n1, hgr.block h (by rw [hs3]; exact Nat.lt_of_lt_of_le hlt hf.size) (fun e => n2 (Option.some.inj e)), Below.heap_setCell _ _ _ _ n2]
    exact hf.block hlt n3
set_option maxHeartbeats 4000000 in
set_option maxRecDepth 100000 in
theorem drop_last {B b : Nat} {V N P : Value} {xs : List Nat} (x : Nat) (w : World) (h : LsAt w B V xs) (hg : GoodX xs) (hb : w.heap[b]? = some (grB V xs.length N P)) (hn : x ∈ xs) (hl1 : xs.length = 1) : Calls Try.prog 32 #[.pointer (some ⟨b, 0, none⟩), .int .u64 (x : Int)] w (DropP B b xs x N P w) := by
  have HS := Lib.hid (seek_any x w h hg (gr_cells hb).1 (heap_lt hb))
  have hm := seekV_mem hg.1 x
  rw [decide_eq_true hn] at hm
  have hpm := (mem_iff hg.1 x).2 hn
  have hne : xs ≠ [] := fun e => by rw [e] at hn; cases hn
  have hx0 : 0 < xs.length := List.length_pos_iff.2 hne
  have hul := up_last hg.1 (x := x)
  rcases h with ⟨h0, _⟩ | ⟨_, g, cap, ho, hr⟩
  · exact absurd h0 hne
  obtain ⟨G, C, cur, rfl, hBG, hG, hC1, hCm, hcs, hc0⟩ := out_row ho
  obtain ⟨c2, hgo, hBg⟩ := row_blk hr
  have hbw := heap_lt hb
  have hGw := heap_lt hG
  have hgw := heap_lt hgo
  have hbG : b ≠ G := fun e => by rw [e, hG] at hb; simp [grB] at hb
  have hbg : b ≠ g := fun e => by rw [e, hgo] at hb; simp [grB] at hb
  have hGg : G ≠ g := fun e => by rw [e, hgo] at hG; simp at hG
  obtain ⟨d0, d1, d2, d3, d4⟩ := gr_cells hb
  have e0 : w.cell? ⟨G, 0, none⟩ = some (.slice (some ⟨g, 0, none⟩) xs.length cap) := by simp [World.cell?, hG, hc0]
  have e1 : w.frozen? ⟨G, 0, none⟩ = false := by simp [World.frozen?, hG]
  have HD : Hid (∀ w1, Below w.heap.size w w1 → Calls Try.prog 48 #[.slice (some ⟨g, 0, none⟩) xs.length cap, .int .i64 (posU xs x : Nat), .int .i64 ((posU xs x : Nat) + 1 : Int)] w1.drew fun e w' =>
      ∃ cap', e = .returned (.slice (some ⟨g, 0, none⟩) (xs.length - 1) cap') ∧ w'.ownsRow B 58 1 (.slice (some ⟨g, 0, none⟩) (xs.length - 1) cap') (xs.length - 1) (valsU (delX xs x)) ∧ Fr (fun h => h = g) w w') := Lib.hid fun w1 hb1 => by
    refine (del_blk x (w := w1.drew) (own_heap hr (hb1.block g hgw)) hg.2.1 hpm.1).mono ?_
    rintro e w' ⟨cap', he, h2, h3⟩
    exact ⟨cap', he, h2, (Fr.of_below (F := fun h => h = g) (below_drewN hb1 1)).trans (Fr.of_grown (F := fun h => h = g) h3 (fun k hk => (Option.some.inj hk).symm)) (fun _ _ h => h)⟩
  have HCE : Hid (∀ w3 : World, Fr (fun h => h = g) w w3 → w3.cell? ⟨b, 0, none⟩ = some (.slice (some ⟨G, 0, none⟩) 1 C) ∧ w3.cell? ⟨b, 1, none⟩ = some (.int .i64 (xs.length : Int)) ∧ w3.cell? ⟨G, 0, none⟩ = some (.slice (some ⟨g, 0, none⟩) xs.length cap) ∧ w3.frozen? ⟨G, 0, none⟩ = false ∧ w3.frozen? ⟨b, 1, none⟩ = false ∧ w3.frozen? ⟨b, 0, none⟩ = false) := Lib.hid fun w3 hf => by
    have a1 := hf.block hbw hbg
    have a2 := hf.block hGw hGg
    simp only [World.cell?, World.frozen?, a1, a2] at *
    exact ⟨d0, d1, e0, e1, d4 1, d4 0⟩
  have HFR : Hid (∀ w1, Below w.heap.size w w1 → Fr (fun h => h = g) w w1) := Lib.hid fun w1 h => Fr.of_below h
  have hz : ¬ xs.getD (xs.length - 1) 0 < x := fun hz => by have := hul hz; omega
  have hr3 := hm
  unfold seekV at hr3
  rw [if_neg hne, if_neg hz] at hr3
  dsimp only at hr3
  unfold SeekP seekV at HS
  rw [if_neg hne, if_neg hz, hr3] at HS
  dsimp only at HS
  have hr0 : posU xs x = 0 := by omega
  have HFIN : Hid (∀ (w3 w4 : World) cap' v', Fr (fun h => h = g) w w3 → w4.ownsRow B 72 1 v' 0 [] → (w3.setCell ⟨G, 0, none⟩ (.slice (some ⟨g, 0, none⟩) 0 cap')).grownBy w4 (some G) → v'.ownBlock = some G →
      DropP B b xs x N P w (.returned (.bool true)) ((w4.setCell ⟨b, 0, none⟩ v').setCell ⟨b, 1, none⟩ (.int .i64 0))) := Lib.hid fun w3 w4 cap' v' h1 h2 h3 h4 => by
    obtain ⟨V', k1, k2, k3⟩ := drop_end (N := N) (P := P) (n := xs.length) hb hG hBG ⟨c2, hgo⟩ hBg h1 h2 h3 h4
    have hdl : delX xs x = [] := List.length_eq_zero_iff.1 (by rw [delX_len hpm.1, hl1])
    exact ⟨rfl, V', by rw [hl1]; exact k1, by rw [hdl]; exact k2, k3⟩
  have HDB : Hid (∀ (w3 : World) cap', Fr (fun h => h = g) w w3 → Calls Try.prog 49 #[.slice (some ⟨G, 0, none⟩) 1 C, .int .i64 0, .int .i64 1] (w3.setCell ⟨G, 0, none⟩ (.slice (some ⟨g, 0, none⟩) 0 cap')) fun e w4 => ∃ v', e = .returned v' ∧ w4.ownsRow B 72 1 v' 0 [] ∧ (w3.setCell ⟨G, 0, none⟩ (.slice (some ⟨g, 0, none⟩) 0 cap')).grownBy w4 (some G) ∧ v'.ownBlock = some G) := Lib.hid fun w3 cap' hf => by
    have hG3 : w3.heap[G]? = some (.cells cur 72 (0, 0)) := (hf.block hGw hGg).trans hG
    have hWG : (w3.setCell ⟨G, 0, none⟩ (.slice (some ⟨g, 0, none⟩) 0 cap')).heap[G]? = some (.cells (cur.setIfInBounds 0 (.slice (some ⟨g, 0, none⟩) 0 cap')) 72 (0, 0)) := by
      simp only [World.setCell, Array.getElem?_modify, if_true, hG3, Option.map_some]
      rfl
    have hro : (w3.setCell ⟨G, 0, none⟩ (.slice (some ⟨g, 0, none⟩) 0 cap')).ownsRow B 72 1 (.slice (some ⟨G, 0, none⟩) 1 C) 1 [.slice (some ⟨g, 0, none⟩) 0 cap'] := by
      refine ⟨rfl, .inr ⟨G, C, _, rfl, hBG, hWG, hC1, hCm, by simp [hcs], ?_⟩⟩
      obtain ⟨cl⟩ := cur
      cases cl with
      | nil => simp at hcs; omega
      | cons c cl => simp
    refine (delB hro 0 (by omega) (by omega) (by intro u hu; simp at hu; subst hu; rfl)).mono ?_
    rintro e w4 ⟨v', rfl, h1, h2, h3⟩
    exact ⟨v', rfl, by simpa using h1, by simpa [Value.ownBlock] using h2, by simpa [Value.ownBlock] using h3⟩
  rw [hr0] at HD HS
  rw [hl1] at HD HCE d1 e0
  simp only [Nat.sub_self] at HD
  clear hb hG hgo hc0 hr ho hn hg d2 d3 d4 hbw hGw hgw hul hm hz hne hr3 hpm hx0 hr0
  generalize DropP B b xs x N P w = Post at HFIN ⊢
  generalize valsU (delX xs x) = vs at HD
  clear hl1
  have hw1 : IntKind.i64.wrap 1 = 1 := by rw [IntKind.wrap_i64]; rfl
  have HD1 : Hid (∀ w1, Below w.heap.size w w1 → Calls Try.prog 48 #[.slice (some ⟨g, 0, none⟩) 1 cap, .int .i64 0, .int .i64 (IntKind.i64.wrap 1)] w1.drew fun e w' =>
      ∃ cap', e = .returned (.slice (some ⟨g, 0, none⟩) 0 cap') ∧ w'.ownsRow B 58 1 (.slice (some ⟨g, 0, none⟩) 0 cap') 0 vs ∧ Fr (fun h => h = g) w w') := Lib.hid (by rw [hw1]; exact HD.out)
  clear hw1
  go_enter Try.func32, Try.ntmps32
  go_wp2_with fail
  refine HS.out.mono ?_
  rintro e w1 ⟨rfl, hb1⟩
  have HB1 := Lib.hid hb1
  obtain ⟨b0, b1, b2, b3, b4, b5⟩ := HCE.out w1 (HFR.out w1 hb1)
  clear hb1
  go_wp2_with fail
  go_region_with (go_at_call 48; ((with_reducible refine (HD1.out w1 HB1.out).mono ?_); rintro e w3 ⟨cap', rfl, ho3, hf3⟩; have HF3 := Lib.hid hf3; obtain ⟨z0, z1, z2, z3, z4, z5⟩ := HCE.out w3 hf3; clear hf3 ho3))
  all_goals (
    have hGb : G ≠ b := Ne.symm hbG
    go_wp2_with fail
    refine (HDB.out w3 cap' HF3.out).mono ?_
    rintro e w4 ⟨v', rfl, ho4, hg4, hv4⟩
    obtain ⟨C', rfl⟩ : ∃ C', v' = .slice (some ⟨G, 0, none⟩) 0 C' := by
      rcases ho4.2 with ⟨rfl, _⟩ | ⟨g2, c', cur2, rfl, _⟩
      · simp [Value.ownBlock] at hv4
      · simp [Value.ownBlock] at hv4; subst hv4; exact ⟨_, rfl⟩
    have HX := Lib.hid (HFIN.out w3 w4 cap' _ HF3.out ho4 hg4 hv4)
    have y0 : w4.cell? ⟨b, 0, none⟩ = some (.slice (some ⟨G, 0, none⟩) 1 C) := hg4.cell (by rw [World.cell?_setCell_other _ _ _ _ (by first | (simp; done) | (simp; exact fun e => absurd e hbG.symm))]; exact z0) (by simpa using hbG)
    have y1 : w4.cell? ⟨b, 1, none⟩ = some (.int .i64 1) := hg4.cell (by rw [World.cell?_setCell_other _ _ _ _ (by first | (simp; done) | (simp; exact fun e => absurd e hbG.symm))]; exact z1) (by simpa using hbG)
    have q0 : (w3.setCell ⟨G, 0, none⟩ (.slice (some ⟨g, 0, none⟩) 0 cap')).cell? ⟨b, 0, none⟩ = some (.slice (some ⟨G, 0, none⟩) 1 C) := by rw [World.cell?_setCell_other _ _ _ _ (by first | (simp; done) | (simp; exact fun e => absurd e hbG.symm))]; exact z0
    have hbl := World.block_lt_of_cell? _ _ q0
    clear q0
    have y2 : w4.frozen? ⟨b, 0, none⟩ = false := (World.frozen?_of_block (a := ⟨b, 0, none⟩) (hg4.block b hbl (by simpa using hbG))).trans (by rw [World.frozen?_setCell]; exact z5)
    have y3 : w4.frozen? ⟨b, 1, none⟩ = false := (World.frozen?_of_block (a := ⟨b, 1, none⟩) (hg4.block b hbl (by simpa using hbG))).trans (by rw [World.frozen?_setCell]; exact z4)
    clear ho4 hg4 hv4 hbl z0 z1 z2 z3 z4 z5
    go_wp2
    exact HX.out)
end Go.Proofs.Ytpgfkggfgkafjaa.Dl
