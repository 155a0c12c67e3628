/-
  Lists of numbers in at most one block: one is put. Not a statement of the seat.
-/
import Derived.Test.YtimgdkafennohaaDl1
import Derived.Test.YtimgdkafennohaaFrame
namespace Go.Proofs.Ytimgdkafennohaa.Dl
open Go.ChangeShapes Go.WideShapes Go.ChangeAt Go.RowKit Base Ro F
/-- A graph's own block. -/
def grB (V : Value) (n : Nat) (N P : Value) : Obj := .cells #[V, .int .i64 (n : Int), N, P] 51
theorem gr_cells {w : World} {b n : Nat} {V N P : Value} (h : w.heap[b]? = some (grB V n N P)) : w.cell? ⟨b, 0, none⟩ = some V ∧ w.cell? ⟨b, 1, none⟩ = some (.int .i64 (n : Int)) ∧ w.cell? ⟨b, 2, none⟩ = some N ∧ w.cell? ⟨b, 3, none⟩ = some P ∧ ∀ k, w.frozen? ⟨b, k, none⟩ = false := by
  simp [World.cell?, World.frozen?, h, grB]
/-- The blocks that a change of a list turns: the graph's own, and those of numbers. -/
def LF (w : World) (B b h : Nat) : Prop := h = b ∨ (B ≤ h ∧ ∃ cs T, w.heap[h]? = some (.cells cs T (0, 0)) ∧ (T = 56 ∨ T = 78))
/-- A number put in its place. -/
def insX (xs : List Nat) (x : Nat) : List Nat := xs.take (posU xs x) ++ x :: xs.drop (posU xs x)
theorem insX_vals (xs : List Nat) (x : Nat) : (valsU xs).take (posU xs x * 1) ++ [.int .u64 (x : Int)] ++ (valsU xs).drop (posU xs x * 1) = valsU (insX xs x) := by
  simp [valsU, insX, List.map_take, List.map_drop]
theorem insX_len (xs : List Nat) (x : Nat) : (insX xs x).length = xs.length + 1 := by
  have := posU_le xs x
  simp [insX]; omega
theorem posU_all : ∀ (xs : List Nat) (x : Nat), (∀ y ∈ xs, y < x) → posU xs x = xs.length
  | [], _, _ => rfl
  | y :: l, x, h => by
    unfold posU
    rw [if_pos (h y (by simp)), posU_all l x fun z hz => h z (by simp [hz])]
    rfl
theorem up_last {xs : List Nat} (hu : Up xs) {x : Nat} (h : xs.getD (xs.length - 1) 0 < x) : posU xs x = xs.length := by
  refine posU_all xs x fun y hy => ?_
  obtain ⟨j, hj, rfl⟩ := List.getElem_of_mem hy
  have e : xs[j] = xs.getD j 0 := by simp [List.getD_eq_getElem?_getD, hj]
  rw [e]
  rcases Nat.lt_or_ge j (xs.length - 1) with h1 | h1
  · have := hu j (xs.length - 1) h1 (by omega); omega
  · rw [show j = xs.length - 1 by omega]; exact h
/-- Whether a number is there, by where it stands. -/
theorem mem_iff {xs : List Nat} (hu : Up xs) (x : Nat) : (posU xs x < xs.length ∧ xs.getD (posU xs x) 0 = x) ↔ x ∈ xs := by
  constructor
  · rintro ⟨h1, h2⟩
    have e : xs[posU xs x] = xs.getD (posU xs x) 0 := by simp [List.getD_eq_getElem?_getD, h1]
    have hm := List.getElem_mem h1
    rw [e, h2] at hm
    exact hm
  · intro h
    obtain ⟨j, hj, he⟩ := List.getElem_of_mem h
    have e : xs.getD j 0 = x := by simp [List.getD_eq_getElem?_getD, hj, he]
    have h1 : posU xs x ≤ j := by
      rcases Nat.lt_or_ge j (posU xs x) with h2 | h2
      · have := posU_lt xs x j h2; omega
      · exact h2
    rcases Nat.lt_or_eq_of_le h1 with h2 | h2
    · have h3 := hu _ _ h2 hj
      have h4 := posU_ge xs x (by omega)
      omega
    · rw [h2]; exact ⟨hj, e⟩
theorem seekV_mem {xs : List Nat} (hu : Up xs) (x : Nat) : (seekV xs x).2.2 = decide (x ∈ xs) := by
  unfold seekV
  by_cases h : xs = []
  · rw [if_pos h, h]; simp
  · rw [if_neg h]
    by_cases h1 : xs.getD (xs.length - 1) 0 < x
    · rw [if_pos h1]
      symm
      rw [decide_eq_false_iff_not]
      intro hm
      have := (mem_iff hu x).2 hm
      rw [up_last hu h1] at this
      omega
    · rw [if_neg h1]
      exact decide_eq_decide.2 (mem_iff hu x)
theorem has_x {B b n : Nat} {V N P : Value} {xs : List Nat} (x : Nat) (w : World) (h : LsAt w B V xs) (hg : GoodX xs) (hb : w.heap[b]? = some (grB V n N P)) : Calls Try.prog 20 #[.pointer (some ⟨b, 0, none⟩), .int .u64 (x : Int)] w fun e w' => e = .returned (.bool (decide (x ∈ xs))) ∧ Below w.heap.size w w' := by
  have HS := Lib.hid (seek_any x w h hg (gr_cells hb).1 (heap_lt hb))
  have hm := seekV_mem hg.1 x
  rw [← hm]
  clear hm
  unfold SeekP at HS
  generalize seekV xs x = s at HS ⊢
  obtain ⟨s1, s2, s3⟩ := s
  simp only at HS ⊢
  clear h hg hb
  go_enter Try.func20, Try.ntmps20
  go_wp2_with fail
  refine HS.out.mono ?_
  rintro e w' ⟨rfl, hb⟩
  go_wp2
  go_ret
  exact ⟨rfl, hb⟩
/-- split does nothing while a block has few. -/
theorem split_any {b G C g n cap : Nat} {w : World} (hn : n < 512) (h0 : w.cell? ⟨b, 0, none⟩ = some (.slice (some ⟨G, 0, none⟩) 1 C)) (h1 : w.cell? ⟨G, 0, none⟩ = some (.slice (some ⟨g, 0, none⟩) n cap)) : Calls Try.prog 32 #[.pointer (some ⟨b, 0, none⟩), .int .i64 0] w fun e w' => e = .returned (.tuple #[]) ∧ w' = w := by
  have hd : (n : Int) < 512 := by omega
  go_enter Try.func32, Try.ntmps32
  go_wp2
  exact bodyPost_ret (v := .tuple #[]) (results_none rfl _ _ _) rfl ⟨rfl, rfl⟩
/-- What put leaves. -/
def PutP (B b : Nat) (xs : List Nat) (x : Nat) (N P : Value) (w : World) (e : Ending) (w' : World) : Prop :=
  e = .returned (.bool true) ∧ ∃ V', w'.heap[b]? = some (grB V' (xs.length + 1) N P) ∧ LsAt w' B V' (insX xs x) ∧ Fr (LF w B b) w w'
theorem insX_ne (xs : List Nat) (x : Nat) : insX xs x ≠ [] := by simp [insX]
theorem oneU (x : Int) : ∀ u ∈ [Value.int .u64 x], u.oneCell' = true := by intro u hu; simp at hu; subst hu; rfl
theorem oneVals (xs : List Nat) : ∀ u ∈ valsU xs, u.oneCell' = true := by
  intro u hu
  simp only [valsU, List.mem_map] at hu
  obtain ⟨a, _, rfl⟩ := hu
  rfl
/-- Insert in the one block: what the walk wants to know. -/
theorem ins_blk {B g cap : Nat} {xs : List Nat} (x : Nat) {w : World} (hr : w.ownsRow B 56 1 (.slice (some ⟨g, 0, none⟩) xs.length cap) xs.length (valsU xs)) (hl : xs.length < 500) (hB : B ≤ w.heap.size) :
    Calls Try.prog 31 #[.slice (some ⟨g, 0, none⟩) xs.length cap, .int .i64 (posU xs x : Nat), .slice (some ⟨w.heap.size, 0, none⟩) 1 1] (w.alloc (.cells #[.int .u64 (x : Int)] 56)).drew fun e w' =>
      ∃ g' cap', e = .returned (.slice (some ⟨g', 0, none⟩) (xs.length + 1) cap') ∧ w'.ownsRow B 56 1 (.slice (some ⟨g', 0, none⟩) (xs.length + 1) cap') (xs.length + 1) (valsU (insX xs x)) ∧ (w.alloc (.cells #[.int .u64 (x : Int)] 56)).drew.grownBy w' (some g) ∧ (g' = g ∨ w.heap.size ≤ g') := by
  have hg : g < w.heap.size := by
    rcases hr.2 with ⟨h4, _⟩ | ⟨g', C', cur, h4, _, h3, _⟩
    · cases h4
    · injection h4 with h4; injection h4 with h4; injection h4 with h4; subst h4; exact heap_lt h3
  have hr2 := World.ownsRow.alloc hr (.cells #[.int .u64 (x : Int)] 56)
  refine (insU (B := B) (w := (w.alloc (.cells #[.int .u64 (x : Int)] 56)).drew) hr2 (posU xs x) (posU_le xs x) (by omega) (by show B ≤ (w.alloc _).heap.size; simp; omega) (y := [.int .u64 (x : Int)]) rfl (heap_alloc_at _ _ _ rfl) (oneU _) (oneVals xs) (by simp [Value.ownBlock]; omega)).mono ?_
  rintro e w' ⟨v', rfl, ho, hg', hat⟩
  rw [insX_vals] at ho
  rcases ho.2 with ⟨_, h4⟩ | ⟨g', c', cur, rfl, h5⟩
  · omega
  · refine ⟨g', c', rfl, ho, hg', ?_⟩
    rcases hat with h | h
    · simp [Value.ownBlock] at h; exact .inl h
    · have h2 : some g' = some (w.alloc (.cells #[.int .u64 (x : Int)] 56)).heap.size := h
      simp at h2; exact .inr (by omega)
/-- The one block's place. -/
theorem out_row {w : World} {B : Nat} {V BV : Value} (ho : w.ownsRow B 78 1 V 1 [BV]) : ∃ G C cur, V = .slice (some ⟨G, 0, none⟩) 1 C ∧ B ≤ G ∧ w.heap[G]? = some (.cells cur 78 (0, 0)) ∧ 1 ≤ C ∧ C ≤ maxLen ∧ cur.size = C ∧ cur[0]? = some BV := by
  rcases ho.2 with ⟨_, h4⟩ | ⟨G, C, cur, h1, h2, h3, h4, h5, h6, h7⟩
  · omega
  · refine ⟨G, C, cur, h1, h2, h3, h4, h5, by omega, ?_⟩
    have : (cur.toList.take (1 * 1))[0]? = some BV := by rw [h7]; rfl
    rw [List.getElem?_take, if_pos (by omega)] at this
    rwa [Array.getElem?_toList] at this
theorem row_blk {w : World} {B g n cap : Nat} {e : TypeId} {vs : List Value} (hr : w.ownsRow B e 1 (.slice (some ⟨g, 0, none⟩) n cap) n vs) : ∃ cur, w.heap[g]? = some (.cells cur e (0, 0)) ∧ B ≤ g := by
  rcases hr.2 with ⟨h4, _⟩ | ⟨g', C', cur, h4, h2, h3, _⟩
  · cases h4
  · injection h4 with h4; injection h4 with h4; injection h4 with h4; subst h4; exact ⟨cur, h3, h2⟩
theorem own_heap {w w' : World} {B g n cap : Nat} {e : TypeId} {vs : List Value} (hr : w.ownsRow B e 1 (.slice (some ⟨g, 0, none⟩) n cap) n vs) (h : w'.heap[g]? = w.heap[g]?) : w'.ownsRow B e 1 (.slice (some ⟨g, 0, none⟩) n cap) n vs := by
  refine ⟨hr.1, ?_⟩
  rcases hr.2 with ⟨h4, _⟩ | ⟨g', C', cur, h4, h2, h3, h5⟩
  · cases h4
  · injection h4 with h4 h6 h7; injection h4 with h4; injection h4 with h4
    subst h4
    exact .inr ⟨g, C', cur, by rw [h7], h2, h.trans h3, h5⟩
/-- What a put leaves where the block was there. -/
theorem put_fin {w w3 : World} {B b n G C g g' cap' m : Nat} {V N P : Value} {cur : Array Value} {ys : List Nat} (hb : w.heap[b]? = some (grB V n N P)) (hV : V = .slice (some ⟨G, 0, none⟩) 1 C) (hG : w.heap[G]? = some (.cells cur 78 (0, 0))) (hBG : B ≤ G) (hC1 : 1 ≤ C) (hCm : C ≤ maxLen) (hcs : cur.size = C)
    (hg : ∃ c2, w.heap[g]? = some (.cells c2 56 (0, 0))) (hBg : B ≤ g) (hf : Fr (fun h => h = g) w w3) (ho : w3.ownsRow B 56 1 (.slice (some ⟨g', 0, none⟩) ys.length cap') ys.length (valsU ys)) (hne : ys ≠ []) (hnew : g' = g ∨ w.heap.size ≤ g') :
    ∃ V', ((w3.setCell ⟨G, 0, none⟩ (.slice (some ⟨g', 0, none⟩) ys.length cap')).setCell ⟨b, 1, none⟩ (.int .i64 (m : Int))).heap[b]? = some (grB V' m N P) ∧ LsAt ((w3.setCell ⟨G, 0, none⟩ (.slice (some ⟨g', 0, none⟩) ys.length cap')).setCell ⟨b, 1, none⟩ (.int .i64 (m : Int))) B V' ys ∧
      Fr (LF w B b) w ((w3.setCell ⟨G, 0, none⟩ (.slice (some ⟨g', 0, none⟩) ys.length cap')).setCell ⟨b, 1, none⟩ (.int .i64 (m : Int))) := by
  obtain ⟨c2, hg⟩ := hg
  have hbG : b ≠ G := fun e => by rw [e, hG] at hb; simp [grB] at hb
  have hbg : b ≠ g := fun e => by rw [e, hg] at hb; simp [grB] at hb
  have hGg : G ≠ g := fun e => by rw [e, hg] at hG; simp at hG
  have hbw := heap_lt hb
  have hGw := heap_lt hG
  have hgw := heap_lt hg
  have hbg' : b ≠ g' := by rcases hnew with h | h <;> omega
  have hGg' : G ≠ g' := by rcases hnew with h | h <;> omega
  have hb3 : w3.heap[b]? = some (grB V n N P) := (hf.block hbw hbg).trans hb
  have hG3 : w3.heap[G]? = some (.cells cur 78 (0, 0)) := (hf.block hGw hGg).trans hG
  obtain ⟨W, hW⟩ : ∃ W, W = (w3.setCell ⟨G, 0, none⟩ (.slice (some ⟨g', 0, none⟩) ys.length cap')).setCell ⟨b, 1, none⟩ (.int .i64 (m : Int)) := ⟨_, rfl⟩
  have hoth : ∀ h, h ≠ G → h ≠ b → W.heap[h]? = w3.heap[h]? := fun h h1 h2 => by
    rw [hW, Below.heap_setCell _ _ _ _ h2, Below.heap_setCell _ _ _ _ h1]
  have hWG : W.heap[G]? = some (.cells (cur.setIfInBounds 0 (.slice (some ⟨g', 0, none⟩) ys.length cap')) 78 (0, 0)) := by
    rw [hW, Below.heap_setCell _ _ _ _ hbG.symm]
    simp only [World.setCell, Array.getElem?_modify, if_true, hG3, Option.map_some]
    rfl
  have hWb : W.heap[b]? = some (grB V m N P) := by
    rw [hW]
    have h1 : (w3.setCell ⟨G, 0, none⟩ (.slice (some ⟨g', 0, none⟩) ys.length cap')).heap[b]? = some (grB V n N P) := by rw [Below.heap_setCell _ _ _ _ hbG]; exact hb3
    generalize w3.setCell ⟨G, 0, none⟩ (.slice (some ⟨g', 0, none⟩) ys.length cap') = Y at h1
    simp only [World.setCell, Array.getElem?_modify, if_true, h1, Option.map_some]
    rfl
  have hWs : W.heap.size = w3.heap.size := by rw [hW]; simp [World.setCell]
  rw [← hW]
  refine ⟨V, hWb, .inr ⟨hne, g', cap', ⟨rfl, .inr ⟨G, C, _, hV, hBG, hWG, hC1, hCm, by simp [hcs], ?_⟩⟩, own_heap ho (hoth g' (Ne.symm hGg') (Ne.symm hbg'))⟩, ⟨?_, ?_, ?_, ?_, fun h hlt hn => ?_⟩⟩
  · obtain ⟨cl⟩ := cur
    cases cl with
    | nil => simp at hcs; omega
    | cons c cl => simp
  · rw [hW]; exact hf.1
  · rw [hW]; exact hf.2.1
  · rw [hW]; exact hf.2.2.1
  · rw [hWs]; exact hf.size
  · have n1 : h ≠ b := fun e => hn (.inl e)
    have n2 : h ≠ G := fun e => hn (.inr ⟨e ▸ hBG, cur, _, e ▸ hG, .inr rfl⟩)
    have n3 : h ≠ g := fun e => hn (.inr ⟨e ▸ hBg, c2, _, e ▸ hg, .inl rfl⟩)
    rw [hoth h n2 n1]
    exact hf.block hlt n3
theorem fr_one {w w1 w3 : World} {g : Nat} {o : Obj} (hb : Below w.heap.size w w1) (hg : (w1.alloc o).drew.grownBy w3 (some g)) : Fr (fun h => h = g) w w3 := by
  have h1 : Below w.heap.size w (w1.alloc o).drew := below_drewN (hb.alloc hb.size o) 1
  exact (Fr.of_below h1).trans (Fr.of_grown (F := fun h => h = g) hg (fun k hk => (Option.some.inj hk).symm)) (fun _ _ h => h)
end Go.Proofs.Ytimgdkafennohaa.Dl
