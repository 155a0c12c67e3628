/-
  Contracts of small functions, several texts laid into one. Not a statement of the seat.
-/
import Derived.Test.YtpgfkggfgkafjaaDl2
namespace Go.Proofs.Ytpgfkggfgkafjaa.Dl
open Go.ChangeShapes Go.WideShapes Go.ChangeAt Go.RowKit Base Ro F
set_option maxHeartbeats 4000000 in
set_option maxRecDepth 100000 in
theorem put_nil {B b : Nat} {V N P : Value} (x : Nat) (w : World) (h : LsAt w B V []) (hb : w.heap[b]? = some (grB V 0 N P)) (hB : B ≤ w.heap.size) : Calls Try.prog 29 #[.pointer (some ⟨b, 0, none⟩), .int .u64 (x : Int)] w (PutP B b [] x N P w) := by
  have hg : GoodX [] := ⟨fun i j _ hj => absurd hj (Nat.not_lt_zero _), by decide, fun _ h => by cases h⟩
  have HS := Lib.hid (seek_any x w h hg (gr_cells hb).1 (heap_lt hb))
  unfold SeekP seekV at HS
  rw [if_pos rfl] at HS
  dsimp only at HS
  obtain ⟨p, c, rfl⟩ := h.form
  rw [if_pos rfl] at hb
  obtain ⟨d0, d1, d2, d3, d4⟩ := gr_cells hb
  have hbw := heap_lt hb
  have f0 := d4 0
  clear h
  go_enter Try.func29, Try.ntmps29
  go_wp2_with fail
  refine HS.out.mono ?_
  rintro e w1 ⟨rfl, hb1⟩
  have c0 := (hb1.cell (p := ⟨b, 0, none⟩) hbw).trans d0
  have c1 := (hb1.cell (p := ⟨b, 1, none⟩) hbw).trans d1
  have hbb : ∀ o o', ((w1.alloc o).alloc o').heap[b]? = w.heap[b]? := fun o o' => (((Below.refl _ _ : Below w1.heap.size w1 w1).alloc (Nat.le_refl _) o).alloc (by simp) o').block b (Nat.lt_of_lt_of_le hbw hb1.size) |>.trans (hb1.block b hbw)
  have p0 : ∀ o o', ((w1.alloc o).alloc o').cell? ⟨b, 0, none⟩ = some (.slice p 0 c) := fun o o' => by simp only [World.cell?, hbb]; exact d0
  have p1 : ∀ o o', ((w1.alloc o).alloc o').frozen? ⟨b, 0, none⟩ = false := fun o o' => by simp only [World.frozen?, hbb]; exact f0
  go_wp2_with fail
  obtain ⟨W, hW⟩ : ∃ W, W = ((w1.alloc (.cells #[] 58)).alloc (.cells #[.slice (some ⟨w1.heap.size, 0, none⟩) 0 0] 72)).setCell ⟨b, 0, none⟩ (.slice (some ⟨w1.heap.size + 1, 0, none⟩) 1 1) := ⟨_, rfl⟩
  rw [← hW]
  have hs1 := hb1.size
  have hbw1 : b < w1.heap.size := Nat.lt_of_lt_of_le hbw hs1
  obtain ⟨g, hgd⟩ : ∃ g, g = w1.heap.size := ⟨_, rfl⟩
  have hWs : W.heap.size = g + 2 := by rw [hW, hgd]; simp [World.setCell]
  have hbb2 := hbb (.cells #[] 58) (.cells #[.slice (some ⟨w1.heap.size, 0, none⟩) 0 0] 72)
  rw [hb] at hbb2
  have hWb : W.heap[b]? = some (grB (.slice (some ⟨g + 1, 0, none⟩) 1 1) 0 N P) := by
    rw [hW, hgd]
    generalize (w1.alloc (.cells #[] 58)).alloc (.cells #[.slice (some ⟨w1.heap.size, 0, none⟩) 0 0] 72) = Y at hbb2
    simp only [World.setCell, Array.getElem?_modify, if_true, hbb2, Option.map_some]
    rfl
  have hWo : ∀ h, h ≠ b → W.heap[h]? = ((w1.alloc (.cells #[] 58)).alloc (.cells #[.slice (some ⟨w1.heap.size, 0, none⟩) 0 0] 72)).heap[h]? := fun h hh => by rw [hW, Below.heap_setCell _ _ _ _ hh]
  have hWG : W.heap[g + 1]? = some (.cells #[.slice (some ⟨g, 0, none⟩) 0 0] 72 (0, 0)) := by rw [hWo _ (by omega), hgd]; exact heap_alloc_at _ _ _ (by simp)
  have hWg : W.heap[g]? = some (.cells #[] 58 (0, 0)) := by rw [hWo _ (by omega), hgd]; exact heap_alloc_lt _ _ _ _ (heap_alloc_at _ _ _ rfl)
  have hr : W.ownsRow B 58 1 (.slice (some ⟨g, 0, none⟩) 0 0) 0 (valsU []) := ⟨rfl, .inr ⟨g, 0, #[], rfl, by omega, hWg, Nat.le_refl _, by simp [maxLen], rfl, rfl⟩⟩
  have hFw : Fr (LF w B b) w W := by
    refine ⟨by rw [hW]; exact hb1.os, by rw [hW]; exact hb1.tape, by rw [hW]; exact hb1.output, by omega, fun h hlt hn => ?_⟩
    rw [hWo h (fun e => hn (.inl e))]
    exact ((((Below.refl _ _ : Below w1.heap.size w1 w1).alloc (Nat.le_refl _) _).alloc (by simp) _).block h (by omega)).trans (hb1.block h hlt)
  have HI : Hid (Calls Try.prog 41 #[.slice (some ⟨g, 0, none⟩) 0 0, .int .i64 0, .slice (some ⟨W.heap.size, 0, none⟩) 1 1] (W.alloc (.cells #[.int .u64 (x : Int)] 58)).drew fun e w' =>
      ∃ g' cap', e = .returned (.slice (some ⟨g', 0, none⟩) 1 cap') ∧ w'.ownsRow B 58 1 (.slice (some ⟨g', 0, none⟩) 1 cap') 1 (valsU (insX [] x)) ∧ Fr (fun h => h = g) W w' ∧ (g' = g ∨ W.heap.size ≤ g')) := Lib.hid (by
    refine (ins_blk (xs := []) x (w := W) hr (by decide) (by omega)).mono ?_
    rintro e w' ⟨g', cap', he, h2, h3, h4⟩
    exact ⟨g', cap', he, h2, fr_one (Below.refl _ _) h3, h4⟩)
  have HFIN : Hid (∀ (w3 : World) g' cap', w3.ownsRow B 58 1 (.slice (some ⟨g', 0, none⟩) 1 cap') 1 (valsU (insX [] x)) → Fr (fun h => h = g) W w3 → (g' = g ∨ W.heap.size ≤ g') →
      PutP B b [] x N P w (.returned (.bool true)) ((w3.setCell ⟨g + 1, 0, none⟩ (.slice (some ⟨g', 0, none⟩) 1 cap')).setCell ⟨b, 1, none⟩ (.int .i64 1))) := Lib.hid fun w3 g' cap' h2 h3 h4 => by
    have hil : (insX [] x).length = 1 := rfl
    rw [← hil] at h2
    obtain ⟨V', k1, k2, k3⟩ := put_fin (m := 1) (N := N) (P := P) (n := 0) hWb rfl hWG (by omega) (Nat.le_refl 1) (by simp [maxLen]) rfl ⟨_, hWg⟩ (by omega) h3 h2 (insX_ne [] x) h4
    refine ⟨rfl, V', k1, k2, hFw.trans k3 (fun h hlt hh => ?_)⟩
    rcases hh with hh | ⟨h5, cs, T, h6, h7⟩
    · exact .inl hh
    · by_cases he : h = b
      · exact .inl he
      · refine .inr ⟨h5, cs, T, ?_, h7⟩
        rw [← h6, hWo h he]
        exact (((((Below.refl _ _ : Below w1.heap.size w1 w1).alloc (Nat.le_refl _) _).alloc (by simp) _).block h (by omega)).trans (hb1.block h hlt)).symm
  have hbG : b ≠ g + 1 := by omega
  have HCE : Hid (∀ w3 : World, Fr (fun h => h = g) W w3 → w3.cell? ⟨b, 0, none⟩ = some (.slice (some ⟨g + 1, 0, none⟩) 1 1) ∧ w3.cell? ⟨b, 1, none⟩ = some (.int .i64 0) ∧ w3.cell? ⟨g + 1, 0, none⟩ = some (.slice (some ⟨g, 0, none⟩) 0 0) ∧ w3.frozen? ⟨g + 1, 0, none⟩ = false ∧ w3.frozen? ⟨b, 1, none⟩ = false) := Lib.hid fun w3 hf => by
    have a1 := (hf.block (by omega) (by omega : b ≠ g)).trans hWb
    have a2 := (hf.block (by omega) (by omega : g + 1 ≠ g)).trans hWG
    obtain ⟨y0, y1, y2, y3, y4⟩ := gr_cells a1
    exact ⟨y0, y1, by simp [World.cell?, a2], by simp [World.frozen?, a2], y4 1⟩
  -- (the walks below speak of W alone)
  have HFR : Hid (∀ w1, Below W.heap.size W w1 → Fr (fun h => h = g) W w1) := Lib.hid fun w1 h => Fr.of_below h
  have HSP : Hid (∀ (w3 : World) g' cap', Fr (fun h => h = g) W w3 → Calls Try.prog 42 #[.pointer (some ⟨b, 0, none⟩), .int .i64 0] ((w3.setCell ⟨g + 1, 0, none⟩ (.slice (some ⟨g', 0, none⟩) 1 cap')).setCell ⟨b, 1, none⟩ (.int .i64 1)) fun e w' => e = .returned (.tuple #[]) ∧ w' = (w3.setCell ⟨g + 1, 0, none⟩ (.slice (some ⟨g', 0, none⟩) 1 cap')).setCell ⟨b, 1, none⟩ (.int .i64 1)) := Lib.hid fun w3 g' cap' hf => by
    obtain ⟨z0, z1, z2, z3, z4⟩ := HCE.out w3 hf
    refine split_any (G := g + 1) (C := 1) (g := g') (cap := cap') (n := 1) (by omega) ?_ ?_
    · rw [World.cell?_setCell_other _ _ _ _ (by simp), World.cell?_setCell_other _ _ _ _ (by first | (simp; done) | (simp; exact fun e => absurd e hbG.symm))]; exact z0
    · rw [World.cell?_setCell_other _ _ _ _ (by first | (simp; done) | (simp; exact fun e => absurd e hbG))]
      exact World.cell?_setCell_same _ _ _ z2
  obtain ⟨b0, b1, b2, b3, b4⟩ := HCE.out W (Fr.refl _ _)
  have HCA := Lib.hid (fun o => HCE.out (W.alloc o) (Fr.of_below ((Below.refl _ _).alloc (Nat.le_refl _) o)))
  have q0 : ∀ o, (W.alloc o).cell? ⟨b, 0, none⟩ = some (.slice (some ⟨g + 1, 0, none⟩) 1 1) := fun o => (HCA.out o).1
  have q1 : ∀ o, (W.alloc o).cell? ⟨g + 1, 0, none⟩ = some (.slice (some ⟨g, 0, none⟩) 0 0) := fun o => (HCA.out o).2.2.1
  generalize valsU (insX [] x) = vs at HI HFIN
  clear p0 p1 hW hbb hbb2 hWo hWb hWG hWg hr hFw hb d0 d1 d2 d3 d4 f0 c0 c1 hWs hgd hbw1 hs1 hb1 HS hbw hB hg
  go_wp2_with fail
  go_region_with (go_at_call 41; ((with_reducible refine (HI.out).mono ?_); rintro e w3 ⟨g', cap', rfl, ho3, hf3, hg3⟩; have HF3 := Lib.hid hf3; have HO3 := Lib.hid ho3; have HG3 := Lib.hid hg3; obtain ⟨z0, z1, z2, z3, z4⟩ := HCE.out w3 hf3; clear hf3 ho3 hg3))
  all_goals (
    have hGb : g + 1 ≠ b := Ne.symm hbG
    go_wp2_with fail
    refine (HSP.out w3 g' cap' HF3.out).mono ?_
    rintro e w5 ⟨rfl, rfl⟩
    go_wp2
    go_ret
    exact HFIN.out w3 g' cap' HO3.out HF3.out HG3.out)
end Go.Proofs.Ytpgfkggfgkafjaa.Dl
namespace Go.Proofs.Ytpgfkggfgkafjaa.Dl
open Go.ChangeShapes Go.WideShapes Go.ChangeAt Go.RowKit Base Ro F
/-- A number taken out. -/
def delX (xs : List Nat) (x : Nat) : List Nat := xs.take (posU xs x) ++ xs.drop (posU xs x + 1)
theorem delX_vals (xs : List Nat) (x : Nat) : (valsU xs).take (posU xs x * 1) ++ (valsU xs).drop ((posU xs x + 1) * 1) = valsU (delX xs x) := by
  simp [valsU, delX, List.map_take, List.map_drop]
theorem delX_len {xs : List Nat} {x : Nat} (h : posU xs x < xs.length) : (delX xs x).length = xs.length - 1 := by
  simp [delX]; omega
/-- What drop leaves. -/
def DropP (B b : Nat) (xs : List Nat) (x : Nat) (N P : Value) (w : World) (e : Ending) (w' : World) : Prop :=
  e = .returned (.bool true) ∧ ∃ V', w'.heap[b]? = some (grB V' (xs.length - 1) N P) ∧ LsAt w' B V' (delX xs x) ∧ Fr (LF w B b) w w'
theorem drop_no {B b n : Nat} {V N P : Value} {xs : List Nat} (x : Nat) (w : World) (h : LsAt w B V xs) (hg : GoodX xs) (hb : w.heap[b]? = some (grB V n N P)) (hn : x ∉ xs) : Calls Try.prog 32 #[.pointer (some ⟨b, 0, none⟩), .int .u64 (x : Int)] w fun e w' => e = .returned (.bool false) ∧ Below w.heap.size w w' := by
  have HS := Lib.hid (seek_any x w h hg (gr_cells hb).1 (heap_lt hb))
  have hm := seekV_mem hg.1 x
  rw [decide_eq_false hn] at hm
  unfold SeekP at HS
  rw [hm] at HS
  generalize seekV xs x = s at HS
  obtain ⟨s1, s2, s3⟩ := s
  simp only at HS
  clear h hg hb hn hm
  go_enter Try.func32, Try.ntmps32
  go_wp2_with fail
  refine HS.out.mono ?_
  rintro e w' ⟨rfl, hb⟩
  go_wp2
  go_ret
  exact ⟨rfl, hb⟩
/-- Delete in the one block: what the walk wants to know. -/
theorem del_blk {B g cap : Nat} {xs : List Nat} (x : Nat) {w : World} (hr : w.ownsRow B 58 1 (.slice (some ⟨g, 0, none⟩) xs.length cap) xs.length (valsU xs)) (hl : xs.length < 500) (hp : posU xs x < xs.length) :
    Calls Try.prog 48 #[.slice (some ⟨g, 0, none⟩) xs.length cap, .int .i64 (posU xs x : Nat), .int .i64 ((posU xs x : Nat) + 1 : Int)] w fun e w' =>
      ∃ cap', e = .returned (.slice (some ⟨g, 0, none⟩) (xs.length - 1) cap') ∧ w'.ownsRow B 58 1 (.slice (some ⟨g, 0, none⟩) (xs.length - 1) cap') (xs.length - 1) (valsU (delX xs x)) ∧ w.grownBy w' (some g) := by
  refine (delU hr (posU xs x) hp (by omega) (oneVals xs)).mono ?_
  rintro e w' ⟨v', rfl, ho, hg', hat⟩
  rw [delX_vals] at ho
  rcases ho.2 with ⟨rfl, h4⟩ | ⟨g', c', cur, rfl, h5⟩
  · simp [Value.ownBlock] at hat
  · have : g' = g := by simpa [Value.ownBlock] using hat
    subst this
    exact ⟨c', rfl, ho, hg'⟩
/-- What a drop leaves where more is left. -/
theorem drop_fin {w w3 : World} {B b n G C g cap' m : Nat} {V N P : Value} {cur : Array Value} {ys : List Nat} (hb : w.heap[b]? = some (grB V n N P)) (hV : V = .slice (some ⟨G, 0, none⟩) 1 C) (hG : w.heap[G]? = some (.cells cur 72 (0, 0))) (hBG : B ≤ G) (hC1 : 1 ≤ C) (hCm : C ≤ maxLen) (hcs : cur.size = C)
    (hg : ∃ c2, w.heap[g]? = some (.cells c2 58 (0, 0))) (hBg : B ≤ g) (hf : Fr (fun h => h = g) w w3) (ho : w3.ownsRow B 58 1 (.slice (some ⟨g, 0, none⟩) ys.length cap') ys.length (valsU ys)) (hne : ys ≠ []) :
    ∃ V', ((w3.setCell ⟨G, 0, none⟩ (.slice (some ⟨g, 0, none⟩) ys.length cap')).setCell ⟨b, 1, none⟩ (.int .i64 (m : Int))).heap[b]? = some (grB V' m N P) ∧ LsAt ((w3.setCell ⟨G, 0, none⟩ (.slice (some ⟨g, 0, none⟩) ys.length cap')).setCell ⟨b, 1, none⟩ (.int .i64 (m : Int))) B V' ys ∧
      Fr (LF w B b) w ((w3.setCell ⟨G, 0, none⟩ (.slice (some ⟨g, 0, none⟩) ys.length cap')).setCell ⟨b, 1, none⟩ (.int .i64 (m : Int))) :=
  put_fin hb hV hG hBG hC1 hCm hcs hg hBg hf ho hne (.inl rfl)
end Go.Proofs.Ytpgfkggfgkafjaa.Dl
namespace Go.Proofs.Ytpgfkggfgkafjaa.Dl
open Go.ChangeShapes Go.WideShapes Go.ChangeAt Go.RowKit Base Ro F
set_option maxHeartbeats 4000000 in
set_option maxRecDepth 100000 in
theorem drop_many {B b : Nat} {V N P : Value} {xs : List Nat} (x : Nat) (w : World) (h : LsAt w B V xs) (hg : GoodX xs) (hb : w.heap[b]? = some (grB V xs.length N P)) (hn : x ∈ xs) (hl1 : 1 < xs.length) : Calls Try.prog 32 #[.pointer (some ⟨b, 0, none⟩), .int .u64 (x : Int)] w (DropP B b xs x N P w) := by
  have HS := Lib.hid (seek_any x w h hg (gr_cells hb).1 (heap_lt hb))
  have hm := seekV_mem hg.1 x
  rw [decide_eq_true hn] at hm
  have hpm := (mem_iff hg.1 x).2 hn
  have hne : xs ≠ [] := fun e => by rw [e] at hn; cases hn
  have hx0 : 0 < xs.length := List.length_pos_iff.2 hne
  have hul := up_last hg.1 (x := x)
  rcases h with ⟨h0, _⟩ | ⟨_, g, cap, ho, hr⟩
  · exact absurd h0 hne
  obtain ⟨G, C, cur, rfl, hBG, hG, hC1, hCm, hcs, hc0⟩ := out_row ho
  obtain ⟨c2, hgo, hBg⟩ := row_blk hr
  have hbw := heap_lt hb
  have hGw := heap_lt hG
  have hgw := heap_lt hgo
  have hbG : b ≠ G := fun e => by rw [e, hG] at hb; simp [grB] at hb
  have hbg : b ≠ g := fun e => by rw [e, hgo] at hb; simp [grB] at hb
  have hGg : G ≠ g := fun e => by rw [e, hgo] at hG; simp at hG
  obtain ⟨d0, d1, d2, d3, d4⟩ := gr_cells hb
  have e0 : w.cell? ⟨G, 0, none⟩ = some (.slice (some ⟨g, 0, none⟩) xs.length cap) := by simp [World.cell?, hG, hc0]
  have e1 : w.frozen? ⟨G, 0, none⟩ = false := by simp [World.frozen?, hG]
  have HD : Hid (∀ w1, Below w.heap.size w w1 → Calls Try.prog 48 #[.slice (some ⟨g, 0, none⟩) xs.length cap, .int .i64 (posU xs x : Nat), .int .i64 ((posU xs x : Nat) + 1 : Int)] w1.drew fun e w' =>
      ∃ cap', e = .returned (.slice (some ⟨g, 0, none⟩) (xs.length - 1) cap') ∧ w'.ownsRow B 58 1 (.slice (some ⟨g, 0, none⟩) (xs.length - 1) cap') (xs.length - 1) (valsU (delX xs x)) ∧ Fr (fun h => h = g) w w') := Lib.hid fun w1 hb1 => by
    refine (del_blk x (w := w1.drew) (own_heap hr (hb1.block g hgw)) hg.2.1 hpm.1).mono ?_
    rintro e w' ⟨cap', he, h2, h3⟩
    exact ⟨cap', he, h2, (Fr.of_below (F := fun h => h = g) (below_drewN hb1 1)).trans (Fr.of_grown (F := fun h => h = g) h3 (fun k hk => (Option.some.inj hk).symm)) (fun _ _ h => h)⟩
  have HCE : Hid (∀ w3 : World, Fr (fun h => h = g) w w3 → w3.cell? ⟨b, 0, none⟩ = some (.slice (some ⟨G, 0, none⟩) 1 C) ∧ w3.cell? ⟨b, 1, none⟩ = some (.int .i64 (xs.length : Int)) ∧ w3.cell? ⟨G, 0, none⟩ = some (.slice (some ⟨g, 0, none⟩) xs.length cap) ∧ w3.frozen? ⟨G, 0, none⟩ = false ∧ w3.frozen? ⟨b, 1, none⟩ = false ∧ w3.frozen? ⟨b, 0, none⟩ = false) := Lib.hid fun w3 hf => by
    have a1 := hf.block hbw hbg
    have a2 := hf.block hGw hGg
    simp only [World.cell?, World.frozen?, a1, a2] at *
    exact ⟨d0, d1, e0, e1, d4 1, d4 0⟩
  have HFR : Hid (∀ w1, Below w.heap.size w w1 → Fr (fun h => h = g) w w1) := Lib.hid fun w1 h => Fr.of_below h
  have hz : ¬ xs.getD (xs.length - 1) 0 < x := fun hz => by have := hul hz; omega
  have hr3 := hm
  unfold seekV at hr3
  rw [if_neg hne, if_neg hz] at hr3
  dsimp only at hr3
  unfold SeekP seekV at HS
  rw [if_neg hne, if_neg hz, hr3] at HS
  dsimp only at HS
  have HFIN : Hid (∀ (w3 : World) cap', w3.ownsRow B 58 1 (.slice (some ⟨g, 0, none⟩) (xs.length - 1) cap') (xs.length - 1) (valsU (delX xs x)) → Fr (fun h => h = g) w w3 →
      DropP B b xs x N P w (.returned (.bool true)) ((w3.setCell ⟨G, 0, none⟩ (.slice (some ⟨g, 0, none⟩) (xs.length - 1) cap')).setCell ⟨b, 1, none⟩ (.int .i64 ((xs.length - 1 : Nat) : Int)))) := Lib.hid fun w3 cap' h2 h3 => by
    have hil := delX_len hpm.1
    rw [← hil] at h2
    have := drop_fin (m := xs.length - 1) (N := N) (P := P) (n := xs.length) hb rfl hG hBG hC1 hCm hcs ⟨c2, hgo⟩ hBg h3 h2 (fun e => by rw [e] at hil; simp at hil; omega)
    rw [hil] at this
    exact ⟨rfl, this⟩
  have hl5 := hg.2.1
  have hrb : posU xs x ≤ 500 := by have := posU_le xs x; omega
  obtain ⟨m, hmm⟩ : ∃ m, xs.length = m + 1 := ⟨xs.length - 1, by omega⟩
  rw [hmm] at HD HFIN HCE d1 e0 hl1 hl5
  simp only [Nat.add_sub_cancel] at HD HFIN
  clear hb hG hgo hc0 hr ho hn hg d2 d3 d4 hbw hGw hgw hul hm hz hne hr3 hpm hx0 hmm
  generalize DropP B b xs x N P w = Post at HFIN ⊢
  generalize valsU (delX xs x) = vs at HD HFIN
  generalize posU xs x = r at HD HS hrb
  have hrx : IntKind.i64.wrap ((r : Int) + 1) = (r : Int) + 1 := by rw [IntKind.wrap_i64]; omega
  have hm0 : ¬ (m : Int) = 0 := by omega
  have hmw : IntKind.i64.wrap ((m : Int) + 1 - 1) = (m : Int) := by rw [IntKind.wrap_i64]; omega
  clear hrb
  go_enter Try.func32, Try.ntmps32
  go_wp2_with fail
  refine HS.out.mono ?_
  rintro e w1 ⟨rfl, hb1⟩
  have HB1 := Lib.hid hb1
  obtain ⟨b0, b1, b2, b3, b4, b5⟩ := HCE.out w1 (HFR.out w1 hb1)
  clear hb1
  go_wp2_with fail
  go_region_with (go_at_call 48; ((with_reducible refine (HD.out w1 HB1.out).mono ?_); rintro e w3 ⟨cap', rfl, ho3, hf3⟩; have HF3 := Lib.hid hf3; have HO3 := Lib.hid ho3; obtain ⟨z0, z1, z2, z3, z4, z5⟩ := HCE.out w3 hf3; clear hf3 ho3))
  all_goals (
    have hGb : G ≠ b := Ne.symm hbG
    go_wp2
    exact HFIN.out w3 cap' HO3.out HF3.out)
end Go.Proofs.Ytpgfkggfgkafjaa.Dl
