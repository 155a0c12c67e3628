/-
  Contracts of small functions, several texts laid into one. Not a statement of the seat.
-/
import Derived.Test.YtimgdkafennohaaDl2
import Derived.Test.YtimgdkafennohaaDl3
namespace Go.Proofs.Ytimgdkafennohaa.Dl
open Go.ChangeShapes Go.WideShapes Go.ChangeAt Go.RowKit Base Ro F
set_option maxHeartbeats 4000000 in
set_option maxRecDepth 100000 in
theorem put_nil {B b : Nat} {V N P : Value} (x : Nat) (w : World) (h : LsAt w B V []) (hb : w.heap[b]? = some (grB V 0 N P)) (hB : B ≤ w.heap.size) : Calls Try.prog 22 #[.pointer (some ⟨b, 0, none⟩), .int .u64 (x : Int)] w (PutP B b [] x N P w) := by
  have hg : GoodX [] := ⟨fun i j _ hj => absurd hj (Nat.not_lt_zero _), by decide, fun _ h => by cases h⟩
  have HS := Lib.hid (seek_any x w h hg (gr_cells hb).1 (heap_lt hb))
  unfold SeekP seekV at HS
  rw [if_pos rfl] at HS
  dsimp only at HS
  obtain ⟨p, c, rfl⟩ := h.form
  rw [if_pos rfl] at hb
  obtain ⟨d0, d1, d2, d3, d4⟩ := gr_cells hb
  have hbw := heap_lt hb
  have f0 := d4 0
  clear h
  go_enter Try.func22, Try.ntmps22
  go_wp2_with fail
  refine HS.out.mono ?_
  rintro e w1 ⟨rfl, hb1⟩
  have c0 := (hb1.cell (p := ⟨b, 0, none⟩) hbw).trans d0
  have c1 := (hb1.cell (p := ⟨b, 1, none⟩) hbw).trans d1
  have hbb : ∀ o o', ((w1.alloc o).alloc o').heap[b]? = w.heap[b]? := fun o o' => (((Below.refl _ _ : Below w1.heap.size w1 w1).alloc (Nat.le_refl _) o).alloc (by simp) o').block b (Nat.lt_of_lt_of_le hbw hb1.size) |>.trans (hb1.block b hbw)
  have p0 : ∀ o o', ((w1.alloc o).alloc o').cell? ⟨b, 0, none⟩ = some (.slice p 0 c) := fun o o' => by simp only [World.cell?, hbb]; exact d0
  have p1 : ∀ o o', ((w1.alloc o).alloc o').frozen? ⟨b, 0, none⟩ = false := fun o o' => by simp only [World.frozen?, hbb]; exact f0
  go_wp2_with fail
  obtain ⟨W, hW⟩ : ∃ W, W = ((w1.alloc (.cells #[] 56)).alloc (.cells #[.slice (some ⟨w1.heap.size, 0, none⟩) 0 0] 78)).setCell ⟨b, 0, none⟩ (.slice (some ⟨w1.heap.size + 1, 0, none⟩) 1 1) := ⟨_, rfl⟩
  rw [← hW]
  have hs1 := hb1.size
  have hbw1 : b < w1.heap.size := Nat.lt_of_lt_of_le hbw hs1
  obtain ⟨g, hgd⟩ : ∃ g, g = w1.heap.size := ⟨_, rfl⟩
  have hWs : W.heap.size = g + 2 := by rw [hW, hgd]; simp [World.setCell]
  have hbb2 := hbb (.cells #[] 56) (.cells #[.slice (some ⟨w1.heap.size, 0, none⟩) 0 0] 78)
  rw [hb] at hbb2
  have hWb : W.heap[b]? = some (grB (.slice (some ⟨g + 1, 0, none⟩) 1 1) 0 N P) := by
    rw [hW, hgd]
    generalize (w1.alloc (.cells #[] 56)).alloc (.cells #[.slice (some ⟨w1.heap.size, 0, none⟩) 0 0] 78) = Y at hbb2
    simp only [World.setCell, Array.getElem?_modify, if_true, hbb2, Option.map_some]
    rfl
  have hWo : ∀ h, h ≠ b → W.heap[h]? = ((w1.alloc (.cells #[] 56)).alloc (.cells #[.slice (some ⟨w1.heap.size, 0, none⟩) 0 0] 78)).heap[h]? := fun h hh => by rw [hW, Below.heap_setCell _ _ _ _ hh]
  have hWG : W.heap[g + 1]? = some (.cells #[.slice (some ⟨g, 0, none⟩) 0 0] 78 (0, 0)) := by rw [hWo _ (by omega), hgd]; exact heap_alloc_at _ _ _ (by simp)
  have hWg : W.heap[g]? = some (.cells #[] 56 (0, 0)) := by rw [hWo _ (by omega), hgd]; exact heap_alloc_lt _ _ _ _ (heap_alloc_at _ _ _ rfl)
  have hr : W.ownsRow B 56 1 (.slice (some ⟨g, 0, none⟩) 0 0) 0 (valsU []) := ⟨rfl, .inr ⟨g, 0, #[], rfl, by omega, hWg, Nat.le_refl _, by simp [maxLen], rfl, rfl⟩⟩
  have hFw : Fr (LF w B b) w W := by
    refine ⟨by rw [hW]; exact hb1.os, by rw [hW]; exact hb1.tape, by rw [hW]; exact hb1.output, by omega, fun h hlt hn => ?_⟩
    rw [hWo h (fun e => hn (.inl e))]
    exact ((((Below.refl _ _ : Below w1.heap.size w1 w1).alloc (Nat.le_refl _) _).alloc (by simp) _).block h (by omega)).trans (hb1.block h hlt)
  have HI : Hid (Calls Try.prog 31 #[.slice (some ⟨g, 0, none⟩) 0 0, .int .i64 0, .slice (some ⟨W.heap.size, 0, none⟩) 1 1] (W.alloc (.cells #[.int .u64 (x : Int)] 56)).drew fun e w' =>
      ∃ g' cap', e = .returned (.slice (some ⟨g', 0, none⟩) 1 cap') ∧ w'.ownsRow B 56 1 (.slice (some ⟨g', 0, none⟩) 1 cap') 1 (valsU (insX [] x)) ∧ Fr (fun h => h = g) W w' ∧ (g' = g ∨ W.heap.size ≤ g')) := Lib.hid (by
    refine (ins_blk (xs := []) x (w := W) hr (by decide) (by omega)).mono ?_
    rintro e w' ⟨g', cap', he, h2, h3, h4⟩
    exact ⟨g', cap', he, h2, fr_one (Below.refl _ _) h3, h4⟩)
  have HFIN : Hid (∀ (w3 : World) g' cap', w3.ownsRow B 56 1 (.slice (some ⟨g', 0, none⟩) 1 cap') 1 (valsU (insX [] x)) → Fr (fun h => h = g) W w3 → (g' = g ∨ W.heap.size ≤ g') →
      PutP B b [] x N P w (.returned (.bool true)) ((w3.setCell ⟨g + 1, 0, none⟩ (.slice (some ⟨g', 0, none⟩) 1 cap')).setCell ⟨b, 1, none⟩ (.int .i64 1))) := Lib.hid fun w3 g' cap' h2 h3 h4 => by
    have hil : (insX [] x).length = 1 := rfl
    rw [← hil] at h2
    obtain ⟨V', k1, k2, k3⟩ := put_fin (m := 1) (N := N) (P := P) (n := 0) hWb rfl hWG (by omega) (Nat.le_refl 1) (by simp [maxLen]) rfl ⟨_, hWg⟩ (by omega) h3 h2 (insX_ne [] x) h4
    refine ⟨rfl, V', k1, k2, hFw.trans k3 (fun h hlt hh => ?_)⟩
    rcases hh with hh | ⟨h5, cs, T, h6, h7⟩
    · exact .inl hh
    · by_cases he : h = b
      · exact .inl he
      · refine .inr ⟨h5, cs, T, ?_, h7⟩
        rw [← h6, hWo h he]
        exact (((((Below.refl _ _ : Below w1.heap.size w1 w1).alloc (Nat.le_refl _) _).alloc (by simp) _).block h (by omega)).trans (hb1.block h hlt)).symm
  have hbG : b ≠ g + 1 := by omega
  have HCE : Hid (∀ w3 : World, Fr (fun h => h = g) W w3 → w3.cell? ⟨b, 0, none⟩ = some (.slice (some ⟨g + 1, 0, none⟩) 1 1) ∧ w3.cell? ⟨b, 1, none⟩ = some (.int .i64 0) ∧ w3.cell? ⟨g + 1, 0, none⟩ = some (.slice (some ⟨g, 0, none⟩) 0 0) ∧ w3.frozen? ⟨g + 1, 0, none⟩ = false ∧ w3.frozen? ⟨b, 1, none⟩ = false) := Lib.hid fun w3 hf => by
    have a1 := (hf.block (by omega) (by omega : b ≠ g)).trans hWb
    have a2 := (hf.block (by omega) (by omega : g + 1 ≠ g)).trans hWG
    obtain ⟨y0, y1, y2, y3, y4⟩ := gr_cells a1
    exact ⟨y0, y1, by simp [World.cell?, a2], by simp [World.frozen?, a2], y4 1⟩
  -- (the walks below speak of W alone)
  have HFR : Hid (∀ w1, Below W.heap.size W w1 → Fr (fun h => h = g) W w1) := Lib.hid fun w1 h => Fr.of_below h
  have HSP : Hid (∀ (w3 : World) g' cap', Fr (fun h => h = g) W w3 → Calls Try.prog 32 #[.pointer (some ⟨b, 0, none⟩), .int .i64 0] ((w3.setCell ⟨g + 1, 0, none⟩ (.slice (some ⟨g', 0, none⟩) 1 cap')).setCell ⟨b, 1, none⟩ (.int .i64 1)) fun e w' => e = .returned (.tuple #[]) ∧ w' = (w3.setCell ⟨g + 1, 0, none⟩ (.slice (some ⟨g', 0, none⟩) 1 cap')).setCell ⟨b, 1, none⟩ (.int .i64 1)) := Lib.hid fun w3 g' cap' hf => by
    obtain ⟨z0, z1, z2, z3, z4⟩ := HCE.out w3 hf
    refine split_any (G := g + 1) (C := 1) (g := g') (cap := cap') (n := 1) (by omega) ?_ ?_
    · rw [World.cell?_setCell_other _ _ _ _ (by simp), World.cell?_setCell_other _ _ _ _ (by first | (simp; done) | (simp; exact fun e => absurd e hbG.symm))]; exact z0
    · rw [World.cell?_setCell_other _ _ _ _ (by first | (simp; done) | (simp; exact fun e => absurd e hbG))]
      exact World.cell?_setCell_same _ _ _ z2
  obtain ⟨b0, b1, b2, b3, b4⟩ := HCE.out W (Fr.refl _ _)
  have HCA := Lib.hid (fun o => HCE.out (W.alloc o) (Fr.of_below ((Below.refl _ _).alloc (Nat.le_refl _) o)))
  have q0 : ∀ o, (W.alloc o).cell? ⟨b, 0, none⟩ = some (.slice (some ⟨g + 1, 0, none⟩) 1 1) := fun o => (HCA.out o).1
  have q1 : ∀ o, (W.alloc o).cell? ⟨g + 1, 0, none⟩ = some (.slice (some ⟨g, 0, none⟩) 0 0) := fun o => (HCA.out o).2.2.1
  generalize valsU (insX [] x) = vs at HI HFIN
  clear p0 p1 hW hbb hbb2 hWo hWb hWG hWg hr hFw hb d0 d1 d2 d3 d4 f0 c0 c1 hWs hgd hbw1 hs1 hb1 HS hbw hB hg
  go_wp2_with fail
  go_region_with (go_at_call 31; ((with_reducible refine (HI.out).mono ?_); rintro e w3 ⟨g', cap', rfl, ho3, hf3, hg3⟩; have HF3 := Lib.hid hf3; have HO3 := Lib.hid ho3; have HG3 := Lib.hid hg3; obtain ⟨z0, z1, z2, z3, z4⟩ := HCE.out w3 hf3; clear hf3 ho3 hg3))
  all_goals (
    have hGb : g + 1 ≠ b := Ne.symm hbG
    go_wp2_with fail
    refine (HSP.out w3 g' cap' HF3.out).mono ?_
    rintro e w5 ⟨rfl, rfl⟩
    go_wp2
    go_ret
    exact HFIN.out w3 g' cap' HO3.out HF3.out HG3.out)
end Go.Proofs.Ytimgdkafennohaa.Dl
namespace Go.Proofs.Ytimgdkafennohaa.Dl
open Go.ChangeShapes Go.WideShapes Go.ChangeAt Go.RowKit Base Ro F
/-- A number taken out. -/
def delX (xs : List Nat) (x : Nat) : List Nat := xs.take (posU xs x) ++ xs.drop (posU xs x + 1)
theorem delX_vals (xs : List Nat) (x : Nat) : (valsU xs).take (posU xs x * 1) ++ (valsU xs).drop ((posU xs x + 1) * 1) = valsU (delX xs x) := by
  simp [valsU, delX, List.map_take, List.map_drop]
theorem delX_len {xs : List Nat} {x : Nat} (h : posU xs x < xs.length) : (delX xs x).length = xs.length - 1 := by
  simp [delX]; omega
/-- What drop leaves. -/
def DropP (B b : Nat) (xs : List Nat) (x : Nat) (N P : Value) (w : World) (e : Ending) (w' : World) : Prop :=
  e = .returned (.bool true) ∧ ∃ V', w'.heap[b]? = some (grB V' (xs.length - 1) N P) ∧ LsAt w' B V' (delX xs x) ∧ Fr (LF w B b) w w'
/-- What a drop leaves where more is left. -/
theorem drop_fin {w w3 : World} {B b n G C g cap' m : Nat} {V N P : Value} {cur : Array Value} {ys : List Nat} (hb : w.heap[b]? = some (grB V n N P)) (hV : V = .slice (some ⟨G, 0, none⟩) 1 C) (hG : w.heap[G]? = some (.cells cur 78 (0, 0))) (hBG : B ≤ G) (hC1 : 1 ≤ C) (hCm : C ≤ maxLen) (hcs : cur.size = C)
    (hg : ∃ c2, w.heap[g]? = some (.cells c2 56 (0, 0))) (hBg : B ≤ g) (hf : Fr (fun h => h = g) w w3) (ho : w3.ownsRow B 56 1 (.slice (some ⟨g, 0, none⟩) ys.length cap') ys.length (valsU ys)) (hne : ys ≠ []) :
    ∃ V', ((w3.setCell ⟨G, 0, none⟩ (.slice (some ⟨g, 0, none⟩) ys.length cap')).setCell ⟨b, 1, none⟩ (.int .i64 (m : Int))).heap[b]? = some (grB V' m N P) ∧ LsAt ((w3.setCell ⟨G, 0, none⟩ (.slice (some ⟨g, 0, none⟩) ys.length cap')).setCell ⟨b, 1, none⟩ (.int .i64 (m : Int))) B V' ys ∧
      Fr (LF w B b) w ((w3.setCell ⟨G, 0, none⟩ (.slice (some ⟨g, 0, none⟩) ys.length cap')).setCell ⟨b, 1, none⟩ (.int .i64 (m : Int))) :=
  put_fin hb hV hG hBG hC1 hCm hcs hg hBg hf ho hne (.inl rfl)
end Go.Proofs.Ytimgdkafennohaa.Dl
namespace Go.Proofs.Ytimgdkafennohaa.Dl
open Go.ChangeShapes Go.WideShapes Go.ChangeAt Go.RowKit Base Ro F
end Go.Proofs.Ytimgdkafennohaa.Dl
namespace Go.Proofs.Ytimgdkafennohaa.Dl
open Go.ChangeShapes Go.WideShapes Go.ChangeAt Go.RowKit Base Ro F
/-- The only number taken out: no block is left. -/
theorem drop_end {w w3 w4 : World} {B b n G g cap' : Nat} {V N P v' : Value} {cur : Array Value} (hb : w.heap[b]? = some (grB V n N P)) (hG : w.heap[G]? = some (.cells cur 78 (0, 0))) (hBG : B ≤ G)
    (hg : ∃ c2, w.heap[g]? = some (.cells c2 56 (0, 0))) (hBg : B ≤ g) (hf : Fr (fun h => h = g) w w3) (ho : w4.ownsRow B 78 1 v' 0 []) (hgr : (w3.setCell ⟨G, 0, none⟩ (.slice (some ⟨g, 0, none⟩) 0 cap')).grownBy w4 (some G)) (hv : v'.ownBlock = some G) :
    ∃ V', ((w4.setCell ⟨b, 0, none⟩ v').setCell ⟨b, 1, none⟩ (.int .i64 0)).heap[b]? = some (grB V' 0 N P) ∧ LsAt ((w4.setCell ⟨b, 0, none⟩ v').setCell ⟨b, 1, none⟩ (.int .i64 0)) B V' [] ∧ Fr (LF w B b) w ((w4.setCell ⟨b, 0, none⟩ v').setCell ⟨b, 1, none⟩ (.int .i64 0)) := by
  obtain ⟨c2, hg⟩ := hg
  have hbG : b ≠ G := fun e => by rw [e, hG] at hb; simp [grB] at hb
  have hbg : b ≠ g := fun e => by rw [e, hg] at hb; simp [grB] at hb
  have hbw := heap_lt hb
  have hb3 : w3.heap[b]? = some (grB V n N P) := (hf.block hbw hbg).trans hb
  have hs3 : (w3.setCell ⟨G, 0, none⟩ (.slice (some ⟨g, 0, none⟩) 0 cap')).heap.size = w3.heap.size := by simp [World.setCell]
  have hb4 : w4.heap[b]? = some (grB V n N P) := by
    rw [hgr.block b (by rw [hs3]; exact Nat.lt_of_lt_of_le hbw hf.size) (by simpa using hbG), Below.heap_setCell _ _ _ _ hbG]; exact hb3
  obtain ⟨W, hW⟩ : ∃ W, W = (w4.setCell ⟨b, 0, none⟩ v').setCell ⟨b, 1, none⟩ (.int .i64 0) := ⟨_, rfl⟩
  have hoth : ∀ h, h ≠ b → W.heap[h]? = w4.heap[h]? := fun h h1 => by rw [hW, Below.heap_setCell _ _ _ _ h1, Below.heap_setCell _ _ _ _ h1]
  have hWb : W.heap[b]? = some (grB v' 0 N P) := by
    rw [hW]
    have h1 : (w4.setCell ⟨b, 0, none⟩ v').heap[b]? = some (grB v' n N P) := by
      simp only [World.setCell, Array.getElem?_modify, if_true, hb4, Option.map_some]
      rfl
    generalize w4.setCell ⟨b, 0, none⟩ v' = Y at h1
    simp only [World.setCell, Array.getElem?_modify, if_true, h1, Option.map_some]
    rfl
  rw [← hW]
  refine ⟨v', hWb, .inl ⟨rfl, ho.1, ?_⟩, ⟨?_, ?_, ?_, ?_, fun h hlt hn => ?_⟩⟩
  · rcases ho.2 with h2 | ⟨g2, cap, cur2, h1, h2, h3, h4⟩
    · exact .inl h2
    · have e : g2 = G := by rw [h1] at hv; simpa [Value.ownBlock] using hv
      exact .inr ⟨g2, cap, cur2, h1, h2, (hoth g2 (by rw [e]; exact Ne.symm hbG)).trans h3, h4⟩
  · rw [hW]; exact hgr.os.trans hf.1
  · rw [hW]; exact hgr.tape.trans hf.2.1
  · rw [hW]; exact hgr.output.trans hf.2.2.1
  · have := hgr.size
    have h5 : W.heap.size = w4.heap.size := by rw [hW]; simp [World.setCell]
    have := hf.size
    omega
  · have n1 : h ≠ b := fun e => hn (.inl e)
    have n2 : h ≠ G := fun e => hn (.inr ⟨e ▸ hBG, cur, _, e ▸ hG, .inr rfl⟩)
    have n3 : h ≠ g := fun e => hn (.inr ⟨e ▸ hBg, c2, _, e ▸ hg, .inl rfl⟩)
    rw [hoth h n1, hgr.block h (by rw [hs3]; exact Nat.lt_of_lt_of_le hlt hf.size) (fun e => n2 (Option.some.inj e)), Below.heap_setCell _ _ _ _ n2]
    exact hf.block hlt n3
end Go.Proofs.Ytimgdkafennohaa.Dl
namespace Go.Proofs.Ytimgdkafennohaa.Dl
open Go.ChangeShapes Go.WideShapes Go.ChangeAt Go.RowKit Base Ro F
theorem put_there {B b n : Nat} {V N P : Value} {xs : List Nat} (x : Nat) (w : World) (h : LsAt w B V xs) (hg : GoodX xs) (hb : w.heap[b]? = some (grB V n N P)) (hn : x ∈ xs) : Calls Try.prog 22 #[.pointer (some ⟨b, 0, none⟩), .int .u64 (x : Int)] w fun e w' => e = .returned (.bool false) ∧ Below w.heap.size w w' := by
  have HS := Lib.hid (seek_any x w h hg (gr_cells hb).1 (heap_lt hb))
  have hm := seekV_mem hg.1 x
  rw [decide_eq_true hn] at hm
  unfold SeekP at HS
  rw [hm] at HS
  generalize seekV xs x = s at HS
  obtain ⟨s1, s2, s3⟩ := s
  simp only at HS
  clear h hg hb hn hm
  go_enter Try.func22, Try.ntmps22
  go_wp2_with fail
  refine HS.out.mono ?_
  rintro e w' ⟨rfl, hb⟩
  go_wp2
  go_ret
  exact ⟨rfl, hb⟩
theorem put_any {B b : Nat} {V N P : Value} {xs : List Nat} (x : Nat) (w : World) (h : LsAt w B V xs) (hg : GoodX xs) (hl : xs.length < 499) (hb : w.heap[b]? = some (grB V xs.length N P)) (hn : x ∉ xs) (hB : B ≤ w.heap.size) : Calls Try.prog 22 #[.pointer (some ⟨b, 0, none⟩), .int .u64 (x : Int)] w (PutP B b xs x N P w) := by
  by_cases hne : xs = []
  · subst hne
    exact put_nil x w h hb hB
  · exact put_one x w h hne hg hl hb hn hB
/-- A number put in, or taken out, leaves a list that rises. -/
theorem insX_mem {xs : List Nat} {x y : Nat} : y ∈ insX xs x ↔ y = x ∨ y ∈ xs := by
  unfold insX
  rw [List.mem_append, List.mem_cons]
  have := List.take_append_drop (posU xs x) xs
  constructor
  · rintro (h | h | h)
    · exact .inr (List.mem_of_mem_take h)
    · exact .inl h
    · exact .inr (List.mem_of_mem_drop h)
  · rintro (h | h)
    · exact .inr (.inl h)
    · rw [← this, List.mem_append] at h
      rcases h with h | h
      · exact .inl h
      · exact .inr (.inr h)
theorem up_pw {xs : List Nat} : Up xs ↔ xs.Pairwise (· < ·) := by
  constructor
  · intro h
    rw [List.pairwise_iff_getElem]
    intro i j hi hj hij
    have := h i j hij hj
    rw [List.getD_eq_getElem?_getD, List.getD_eq_getElem?_getD, List.getElem?_eq_getElem hi, List.getElem?_eq_getElem hj] at this
    exact this
  · intro h i j hij hj
    rw [List.pairwise_iff_getElem] at h
    have := h i j (by omega) hj hij
    rw [List.getD_eq_getElem?_getD, List.getD_eq_getElem?_getD, List.getElem?_eq_getElem hj, List.getElem?_eq_getElem (show i < xs.length by omega)]
    exact this
theorem pos_take {xs : List Nat} {x y : Nat} (h : y ∈ xs.take (posU xs x)) : y < x := by
  obtain ⟨j, hj, rfl⟩ := List.getElem_of_mem h
  rw [List.length_take] at hj
  have := posU_lt xs x j (by omega)
  rw [List.getD_eq_getElem?_getD, List.getElem?_eq_getElem (by omega)] at this
  rw [List.getElem_take]
  exact this
theorem pos_drop {xs : List Nat} (hu : Up xs) {x y : Nat} (h : y ∈ xs.drop (posU xs x)) : x ≤ y := by
  obtain ⟨j, hj, rfl⟩ := List.getElem_of_mem h
  rw [List.length_drop] at hj
  rw [List.getElem_drop]
  have h0 := posU_ge xs x (by omega)
  have e : xs[posU xs x + j] = xs.getD (posU xs x + j) 0 := by simp [List.getD_eq_getElem?_getD, show posU xs x + j < xs.length by omega]
  rw [e]
  rcases Nat.eq_zero_or_pos j with hj0 | hj0
  · subst hj0; exact h0
  · have := hu (posU xs x) (posU xs x + j) (by omega) (by omega); omega
theorem insX_up {xs : List Nat} (hu : Up xs) {x : Nat} (hn : x ∉ xs) : Up (insX xs x) := by
  have hp := up_pw.1 hu
  rw [up_pw]
  unfold insX
  rw [List.pairwise_append, List.pairwise_cons]
  have hd : ∀ y ∈ xs.drop (posU xs x), x < y := fun y hy => by
    have := pos_drop hu hy
    rcases Nat.lt_or_eq_of_le this with h | h
    · exact h
    · exact absurd (h ▸ List.mem_of_mem_drop hy) hn
  refine ⟨hp.sublist (List.take_sublist _ _), ⟨hd, hp.sublist (List.drop_sublist _ _)⟩, fun y hy z hz => ?_⟩
  have h1 := pos_take hy
  rcases List.mem_cons.1 hz with rfl | hz
  · exact h1
  · have := hd z hz; omega
theorem delX_sub (xs : List Nat) (x : Nat) : (delX xs x).Sublist xs := by
  unfold delX
  have h : (xs.take (posU xs x) ++ xs.drop (posU xs x + 1)).Sublist (xs.take (posU xs x) ++ xs.drop (posU xs x)) := by
    refine List.Sublist.append (List.Sublist.refl _) ?_
    rw [← List.drop_drop]
    exact List.drop_sublist _ _
  rw [List.take_append_drop] at h
  exact h
theorem delX_up {xs : List Nat} (hu : Up xs) (x : Nat) : Up (delX xs x) := up_pw.2 ((up_pw.1 hu).sublist (delX_sub xs x))
theorem delX_mem {xs : List Nat} (hu : Up xs) {x y : Nat} (hx : x ∈ xs) : y ∈ delX xs x ↔ y ∈ xs ∧ y ≠ x := by
  obtain ⟨h1, h2⟩ := (mem_iff hu x).2 hx
  have hget : xs[posU xs x] = x := by rw [List.getD_eq_getElem?_getD, List.getElem?_eq_getElem h1] at h2; exact h2
  have hcut : xs = xs.take (posU xs x) ++ x :: xs.drop (posU xs x + 1) := by
    have := List.take_append_drop (posU xs x) xs
    rw [List.drop_eq_getElem_cons h1, hget] at this
    exact this.symm
  have hp := up_pw.1 hu
  unfold delX
  constructor
  · intro h
    refine ⟨(delX_sub xs x).subset h, ?_⟩
    rw [hcut, List.pairwise_append, List.pairwise_cons] at hp
    rcases List.mem_append.1 h with h | h
    · have := pos_take h; omega
    · have := hp.2.1.1 y h; omega
  · rintro ⟨h, hne⟩
    rw [hcut] at h
    rcases List.mem_append.1 h with h | h
    · exact List.mem_append.2 (.inl h)
    · rcases List.mem_cons.1 h with h | h
      · exact absurd h hne
      · exact List.mem_append.2 (.inr h)
end Go.Proofs.Ytimgdkafennohaa.Dl
