/-
  Contracts of small functions, several texts laid into one. Not a statement of the seat.
-/
import Derived.Test.YtakgepdlninnhaaDoorHead19
import Derived.Test.YtakgepdlninnhaaDoorStored
import Derived.Test.YtakgepdlninnhaaDoorHead3
import Derived.Test.YtakgepdlninnhaaDoorShelf
import Derived.Test.YtakgepdlninnhaaDoorRow2
namespace Go.Proofs.YtakgepdlninnhaaDoor.Cs
open Go.ChangeShapes Go.WideShapes Go.ChangeAt Go.RowKit Base F Bits Df
variable {B n m gl : Nat} {k : CB} {w W W0 W' : World} {f : Int × Int → Int} {V : Nat → Nat → Nat} {la : La}
theorem grown_of {x : Nat} (hf : Fr (fun g => g = x) W W') : W.grownBy W' (some x) := ⟨hf.1, hf.2.1, hf.2.2.1, hf.size, fun g hg hne => hf.block hg (fun e => hne (by rw [e]))⟩
/-- A row that is none of a closure's. -/
structure Out (k : CB) (n : Nat) (la : La) (W : World) (gl : Nat) : Prop where
  cells : ∃ cur, W.heap[gl]? = some (.cells cur 86)
  ne : ∀ a, a < 3 → ∀ i, i < n → k.rg a i ≠ gl
  la : ∀ y, la = some y → y.2.1 ≠ gl
theorem CS.fr (h : CS B k n W f V la m) (ho : Out k n la W gl) (hf : Fr (fun g => g = gl) W W') : CS B k n W' f V la m := by
  obtain ⟨cur, hc⟩ := ho.cells
  exact h.other hc ho.ne ho.la (grown_of hf)
/-- What lies above a world is none of a closure's. -/
theorem Out.new (h : CS B k n W f V la m) {cur : Array Value} (hg : W.heap.size ≤ gl) (hc : W'.heap[gl]? = some (.cells cur 86)) : Out k n la W' gl :=
  ⟨⟨cur, hc⟩, fun a ha i hi e => by have := heap_lt (h.row a ha i hi).2.1; omega, fun y hy e => by have := heap_lt (h.lst y hy).1.2.1; omega⟩
set_option maxRecDepth 100000 in
theorem wpList_store_se {ops : Array Oper} {rest : List Oper} {o : Oper} {a : Act} {w : World} {Q : Exit → Act → World → Prop} (hgd : o.guard = none) (x y : Operand) (ho : o.op = .store 79 x y)
    (g F : Nat) (lb : Array Value) (bl : Nat) (z : Array Value) (hx : a.eval x = .pointer (some ⟨g, 0, none⟩)) (hy : a.eval y = .agg #[fnV F lb, .pointer (some ⟨bl, 0, none⟩)]) (hg : w.heap[g]? = some (.cells z 79)) (hz : z.size = 2)
    (h : ∀ w', Stored w g (.cells #[fnV F lb, .pointer (some ⟨bl, 0, none⟩)] 79) w' → wpList Tryd.prog ops Q rest (a.put o.dst undef) w') : wpList Tryd.prog ops Q (o :: rest) a w :=
  wpList_store_row hgd _ x y ho g _ hx hy 79 _ hg (by kernel_rfl) hz (by simp [Value.oneCell', fnV]) (h _ (stored_setRow _ _ _ _ _ hg))
def cellF (c : Nat) : Obj := .cells #[.pointer (some ⟨c, 0, none⟩)] 23
theorem cellF_at {W : World} {g c : Nat} (h : W.heap[g]? = some (cellF c)) : W.cell? ⟨g, 0, none⟩ = some (.pointer (some ⟨c, 0, none⟩)) := by
  unfold cellF at h
  simp [World.cell?, h]
set_option maxRecDepth 100000 in
theorem nxF_onward (h : CS B k n W0 f V la m) (ho : Out k n la W0 gl) (hT : TabW W0) (htab : 0 ≠ gl) {cg : Nat} (hcg : W0.heap[cg]? = some (cellF k.b)) : NxF W0 n gl 58 #[.pointer (some ⟨cg, 0, none⟩)] (k.rb 0) (k.rg 0) (V 0) := by
  refine ⟨fun args w => rfl, fun W v hv hf => ?_, fun v hv => ⟨h.row 0 (by omega) v hv, ho.ne 0 (by omega) v hv⟩, ho.cells, fun W hf => ?_, h.hn⟩
  · have hcs := h.fr ho hf
    have hne : cg ≠ gl := fun e => by
      obtain ⟨cur, hc⟩ := ho.cells
      rw [e] at hcg
      rw [hc] at hcg
      unfold cellF at hcg
      simp only [Option.some.injEq, Obj.cells.injEq] at hcg
      exact absurd hcg.2.1 (by decide)
    have hcW : W.heap[cg]? = some (cellF k.b) := (hf.block (heap_lt hcg) hne).trans hcg
    have c0 := cellF_at hcW
    obtain ⟨_, c1, c2, c3, _⟩ := hcs.cells
    obtain ⟨g, hp, hlt, hcl⟩ := hcs.way (a := 0) (by omega) hv
    rw [hp] at c1
    have hvi : (v : Int) < (n : Int) := by omega
    have hn4 : (n : Int) ≤ 4096 := by have := h.hn; omega
    clear hcs hcW hne hcg hf h ho hT hp htab
    show Calls _ _ #[.int .i64 (v : Int), .pointer (some ⟨cg, 0, none⟩)] W _
    go_enter Tryd.func58, Tryd.ntmps58
    go_wp2
    go_ret
    exact ⟨rfl, Below.refl _ _⟩
  · refine ⟨fun j hj => ?_, Nat.lt_of_lt_of_le hT.2 hf.size⟩
    have h1 := hT.1 j hj
    have h2 := hf.block hT.2 htab
    rw [← h1]
    simp only [World.cell?, h2]
/-- What onward leaves. -/
def New_onward (k : CB) (n S : Nat) (w : World) (e : Ending) (w' : World) : Prop := ∃ bl gl cg, e = .returned (.agg #[fnV 58 #[.pointer (some ⟨cg, 0, none⟩)], .pointer (some ⟨bl, 0, none⟩)]) ∧ RowAt w' bl gl n S ∧ w'.heap[cg]? = some (cellF k.b) ∧ Below w.heap.size w w' ∧ w.heap.size ≤ gl
set_option maxRecDepth 100000 in
theorem onward_any {bs gs S : Nat} (hr : RowAt w bs gs n S) : Calls Tryd.prog 42 #[.pointer (some ⟨k.b, 0, none⟩), .pointer (some ⟨bs, 0, none⟩)] w (New_onward k n S w) := by
  obtain ⟨w1, hw1⟩ : ∃ X, X = (w.alloc (cellF k.b)).alloc (.cells #[.nilFunc, .pointer none] 79) := ⟨_, rfl⟩
  have hb1 : Below w.heap.size w w1 := by rw [hw1]; exact ((Below.refl _ _).alloc (Nat.le_refl _) _).alloc (by simp) _
  have HCP := Lib.hid (copy_row bs gs n S w1 (hr.below hb1))
  have HB1 := Lib.hid hb1
  have HC : Hid (w1.heap[w.heap.size]? = some (cellF k.b)) := Lib.hid (by rw [hw1]; exact heap_alloc_lt _ _ _ _ (heap_alloc_at _ _ _ rfl))
  have HX : Hid (∃ z, z.size = 2 ∧ w1.heap[w.heap.size + 1]? = some (.cells z 79)) := Lib.hid (by rw [hw1]; exact ⟨_, rfl, heap_alloc_at _ _ _ (by simp)⟩)
  unfold cellF at hw1
  clear hr hb1
  go_enter Tryd.func42, Tryd.ntmps42
  go_wp2_with fail
  rw [← hw1]
  clear hw1
  refine HCP.out.mono ?_
  rintro e w2 ⟨bl, gl, rfl, hr2, hb2, h1, h2⟩
  have HS : Hid (RowAt w2 bl gl n S ∧ Below w1.heap.size w1 w2 ∧ w1.heap.size ≤ bl ∧ w1.heap.size ≤ gl) := Lib.hid ⟨hr2, hb2, h1, h2⟩
  have HX2 : Hid (∃ z, z.size = 2 ∧ w2.heap[w.heap.size + 1]? = some (.cells z 79)) := Lib.hid (by
    obtain ⟨z, hz, hx⟩ := HX.out
    exact ⟨z, hz, (hb2.block _ (heap_lt hx)).trans hx⟩)
  obtain ⟨z, hz, hx⟩ := HX2.out
  have HZ := Lib.hid (And.intro hz hx)
  clear hr2 hb2 h1 h2 hz hx HX HX2 HCP
  go_wp2_with (refine wpList_store_se rfl (.tmp 4) (.tmp 8) rfl (w.heap.size + 1) 58 #[.pointer (some ⟨w.heap.size, 0, none⟩)] bl z rfl rfl HZ.out.2 HZ.out.1 ?_; intro w3 hst; have HST := Lib.hid hst; clear hst)
  refine bodyPost_ret (results_cell_row Tryd.results42 _ _ (w.heap.size + 1) _ _ _ _ rfl HST.out.2.2.2.2.1 Tryd.underlying79 rfl (by kernel_rfl)) rfl ?_
  obtain ⟨hr2, hb2, h1, h2⟩ := HS.out
  have hst := HST.out
  have hw12 : Below w.heap.size w w2 := HB1.out.trans (hb2.mono HB1.out.size)
  have hcell : w2.heap[w.heap.size]? = some (cellF k.b) := (hb2.block _ (heap_lt HC.out)).trans HC.out
  have hl1 : w.heap.size + 1 < w1.heap.size + 1 := by have := heap_lt HC.out; omega
  have hlx : w.heap.size + 1 < w2.heap.size := heap_lt HZ.out.2
  have ne : ∀ {g : Nat} {cs : Array Value} {T : TypeId}, w2.heap[g]? = some (Obj.cells cs T (0, 0)) → T ≠ 79 → g ≠ w.heap.size + 1 := by
    intro g cs T a hT e
    rw [e, HZ.out.2] at a
    simp only [Option.some.injEq, Obj.cells.injEq] at a
    exact hT a.2.1.symm
  refine ⟨bl, gl, w.heap.size, rfl, hr2.keep (hst.2.2.2.2.2 _ (ne hr2.1 (by decide))) (hst.2.2.2.2.2 _ (ne hr2.2.1 (by decide))), (hst.2.2.2.2.2 _ (by omega)).trans hcell, hst.below hw12 (by omega), ?_⟩
  have := HB1.out.size
  omega
set_option maxRecDepth 100000 in
theorem nxF_backward (h : CS B k n W0 f V la m) (ho : Out k n la W0 gl) (hT : TabW W0) (htab : 0 ≠ gl) {cg : Nat} (hcg : W0.heap[cg]? = some (cellF k.b)) : NxF W0 n gl 71 #[.pointer (some ⟨cg, 0, none⟩)] (k.rb 1) (k.rg 1) (V 1) := by
  refine ⟨fun args w => rfl, fun W v hv hf => ?_, fun v hv => ⟨h.row 1 (by omega) v hv, ho.ne 1 (by omega) v hv⟩, ho.cells, fun W hf => ?_, h.hn⟩
  · have hcs := h.fr ho hf
    have hne : cg ≠ gl := fun e => by
      obtain ⟨cur, hc⟩ := ho.cells
      rw [e] at hcg
      rw [hc] at hcg
      unfold cellF at hcg
      simp only [Option.some.injEq, Obj.cells.injEq] at hcg
      exact absurd hcg.2.1 (by decide)
    have hcW : W.heap[cg]? = some (cellF k.b) := (hf.block (heap_lt hcg) hne).trans hcg
    have c0 := cellF_at hcW
    obtain ⟨_, c1, c2, c3, _⟩ := hcs.cells
    obtain ⟨g, hp, hlt, hcl⟩ := hcs.way (a := 1) (by omega) hv
    rw [hp] at c2
    have hvi : (v : Int) < (n : Int) := by omega
    have hn4 : (n : Int) ≤ 4096 := by have := h.hn; omega
    clear hcs hcW hne hcg hf h ho hT hp htab
    show Calls _ _ #[.int .i64 (v : Int), .pointer (some ⟨cg, 0, none⟩)] W _
    go_enter Tryd.func71, Tryd.ntmps71
    go_wp2
    go_ret
    exact ⟨rfl, Below.refl _ _⟩
  · refine ⟨fun j hj => ?_, Nat.lt_of_lt_of_le hT.2 hf.size⟩
    have h1 := hT.1 j hj
    have h2 := hf.block hT.2 htab
    rw [← h1]
    simp only [World.cell?, h2]
/-- What backward leaves. -/
def New_backward (k : CB) (n S : Nat) (w : World) (e : Ending) (w' : World) : Prop := ∃ bl gl cg, e = .returned (.agg #[fnV 71 #[.pointer (some ⟨cg, 0, none⟩)], .pointer (some ⟨bl, 0, none⟩)]) ∧ RowAt w' bl gl n S ∧ w'.heap[cg]? = some (cellF k.b) ∧ Below w.heap.size w w' ∧ w.heap.size ≤ gl
set_option maxRecDepth 100000 in
theorem backward_any {bs gs S : Nat} (hr : RowAt w bs gs n S) : Calls Tryd.prog 64 #[.pointer (some ⟨k.b, 0, none⟩), .pointer (some ⟨bs, 0, none⟩)] w (New_backward k n S w) := by
  obtain ⟨w1, hw1⟩ : ∃ X, X = (w.alloc (cellF k.b)).alloc (.cells #[.nilFunc, .pointer none] 79) := ⟨_, rfl⟩
  have hb1 : Below w.heap.size w w1 := by rw [hw1]; exact ((Below.refl _ _).alloc (Nat.le_refl _) _).alloc (by simp) _
  have HCP := Lib.hid (copy_row bs gs n S w1 (hr.below hb1))
  have HB1 := Lib.hid hb1
  have HC : Hid (w1.heap[w.heap.size]? = some (cellF k.b)) := Lib.hid (by rw [hw1]; exact heap_alloc_lt _ _ _ _ (heap_alloc_at _ _ _ rfl))
  have HX : Hid (∃ z, z.size = 2 ∧ w1.heap[w.heap.size + 1]? = some (.cells z 79)) := Lib.hid (by rw [hw1]; exact ⟨_, rfl, heap_alloc_at _ _ _ (by simp)⟩)
  unfold cellF at hw1
  clear hr hb1
  go_enter Tryd.func64, Tryd.ntmps64
  go_wp2_with fail
  rw [← hw1]
  clear hw1
  refine HCP.out.mono ?_
  rintro e w2 ⟨bl, gl, rfl, hr2, hb2, h1, h2⟩
  have HS : Hid (RowAt w2 bl gl n S ∧ Below w1.heap.size w1 w2 ∧ w1.heap.size ≤ bl ∧ w1.heap.size ≤ gl) := Lib.hid ⟨hr2, hb2, h1, h2⟩
  have HX2 : Hid (∃ z, z.size = 2 ∧ w2.heap[w.heap.size + 1]? = some (.cells z 79)) := Lib.hid (by
    obtain ⟨z, hz, hx⟩ := HX.out
    exact ⟨z, hz, (hb2.block _ (heap_lt hx)).trans hx⟩)
  obtain ⟨z, hz, hx⟩ := HX2.out
  have HZ := Lib.hid (And.intro hz hx)
  clear hr2 hb2 h1 h2 hz hx HX HX2 HCP
  go_wp2_with (refine wpList_store_se rfl (.tmp 4) (.tmp 8) rfl (w.heap.size + 1) 71 #[.pointer (some ⟨w.heap.size, 0, none⟩)] bl z rfl rfl HZ.out.2 HZ.out.1 ?_; intro w3 hst; have HST := Lib.hid hst; clear hst)
  refine bodyPost_ret (results_cell_row Tryd.results64 _ _ (w.heap.size + 1) _ _ _ _ rfl HST.out.2.2.2.2.1 Tryd.underlying79 rfl (by kernel_rfl)) rfl ?_
  obtain ⟨hr2, hb2, h1, h2⟩ := HS.out
  have hst := HST.out
  have hw12 : Below w.heap.size w w2 := HB1.out.trans (hb2.mono HB1.out.size)
  have hcell : w2.heap[w.heap.size]? = some (cellF k.b) := (hb2.block _ (heap_lt HC.out)).trans HC.out
  have hl1 : w.heap.size + 1 < w1.heap.size + 1 := by have := heap_lt HC.out; omega
  have hlx : w.heap.size + 1 < w2.heap.size := heap_lt HZ.out.2
  have ne : ∀ {g : Nat} {cs : Array Value} {T : TypeId}, w2.heap[g]? = some (Obj.cells cs T (0, 0)) → T ≠ 79 → g ≠ w.heap.size + 1 := by
    intro g cs T a hT e
    rw [e, HZ.out.2] at a
    simp only [Option.some.injEq, Obj.cells.injEq] at a
    exact hT a.2.1.symm
  refine ⟨bl, gl, w.heap.size, rfl, hr2.keep (hst.2.2.2.2.2 _ (ne hr2.1 (by decide))) (hst.2.2.2.2.2 _ (ne hr2.2.1 (by decide))), (hst.2.2.2.2.2 _ (by omega)).trans hcell, hst.below hw12 (by omega), ?_⟩
  have := HB1.out.size
  omega
end Go.Proofs.YtakgepdlninnhaaDoor.Cs
namespace Go.Proofs.YtakgepdlninnhaaDoor.Cs
open Go.ChangeShapes Go.WideShapes Go.ChangeAt Go.RowKit Base F Bits Df
variable {B n m gl lb lg LV : Nat} {k : CB} {w W W0 W' : World} {f : Int × Int → Int} {V : Nat → Nat → Nat} {la : La}
theorem ofV_bit {n t : Nat} : ∀ (cs : List Nat) (A : Nat), (∀ x ∈ cs, x < n) → ((natI cs).foldl (fun V i => setV n V i true) A).testBit t = (A.testBit t || decide (t ∈ cs))
  | [], A, _ => by simp [natI]
  | c :: cs, A, h => by
    show ((natI cs).foldl (fun V i => setV n V i true) (setV n A (c : Int) true)).testBit t = _
    rw [ofV_bit cs _ (fun x hx => h x (List.mem_cons_of_mem _ hx)), setV_bit (h c List.mem_cons_self)]
    by_cases e : t = c
    · subst e; simp
    · rw [if_neg e]
      congr 1
      rw [decide_eq_decide]
      simp [e]
theorem row_ne {b g n V b' g' n' V' : Nat} (h : RowAt W b g n V) (h' : RowAt W b' g' n' V') : b ≠ g' := fun e => by
  have h1 := h.1
  rw [e, h'.2.1] at h1
  simp only [Option.some.injEq, Obj.cells.injEq] at h1
  exact absurd h1.2.1 (by decide)
/-- Where arcs go from some. -/
def goesB (V : Nat → Nat → Nat) (cs : List Nat) (t : Nat) : Bool := cs.any fun x => (V 0 x).testBit t
/-- Which row settle makes. -/
def SetX (n : Nat) (V : Nat → Nat → Nat) (cs : List Nat) (X : Nat) : Prop :=
  ∃ done : Nat → Prop, (∀ t, done t → t < n ∧ t ∉ cs ∧ goesB V cs t = true) ∧ (∀ b, b < n → (X.testBit b = true ↔ (b ∈ cs ∧ ∃ y ∈ cs, goesB V cs y = true) ∨ ∃ t, done t ∧ (b = t ∨ (V 2 t).testBit b = true))) ∧ ∀ t, t < n → t ∉ cs → goesB V cs t = true → X.testBit t = true
def cutV (V : Nat → Nat → Nat) (X : Nat) (cs : List Nat) : Nat → Nat → Nat := fun a x => if a = 2 ∧ x ∈ cs then V 2 x &&& X else V a x
theorem cutV_succ (V : Nat → Nat → Nat) (X : Nat) (cs : List Nat) (c : Nat) : upV (cutV V X cs) 2 c (cutV V X cs 2 c &&& X) = cutV V X (cs ++ [c]) := by
  funext a x
  unfold upV
  by_cases h : a = 2 ∧ x = c
  · obtain ⟨rfl, rfl⟩ := h
    rw [if_pos ⟨rfl, rfl⟩]
    unfold cutV
    rw [if_pos (show 2 = 2 ∧ x ∈ cs ++ [x] from ⟨rfl, by simp⟩)]
    split
    · rw [Nat.and_assoc, Nat.and_self]
    · rfl
  · rw [if_neg h]
    unfold cutV
    by_cases h2 : a = 2 ∧ x ∈ cs
    · rw [if_pos h2, if_pos ⟨h2.1, by simp [h2.2]⟩]
    · rw [if_neg h2, if_neg (fun h3 => ?_)]
      rcases List.mem_append.1 h3.2 with h4 | h4
      · exact h2 ⟨h3.1, h4⟩
      · rw [List.mem_singleton] at h4
        exact h ⟨h3.1, h4⟩
/-- Whose rows are made less. -/
def toldB (V : Nat → Nat → Nat) (X : Nat) (cs : List Nat) (x : Nat) : Bool := decide (x ∈ cs) && decide (V 2 x &&& X ≠ V 2 x)
/-- What settle leaves. -/
def SetP (B : Nat) (k : CB) (n m lb lg LV : Nat) (f : Int × Int → Int) (V : Nat → Nat → Nat) (cs : List Nat) (W : World) (e : Ending) (W' : World) : Prop :=
  ∃ X LV', e = .returned (.tuple #[]) ∧ SetX n V cs X ∧ CS B k n W' f (cutV V X cs) (some (lb, lg, LV')) m ∧ (∀ x, x < n → LV'.testBit x = (LV.testBit x || toldB V X cs x)) ∧ Fr (fun g => g = lg ∨ ∃ i, i < n ∧ g = k.rg 2 i) W W'
theorem told_succ {V : Nat → Nat → Nat} {X c : Nat} {cs : List Nat} (h : cutV V X cs 2 c &&& X = cutV V X cs 2 c) (x : Nat) : toldB V X (cs ++ [c]) x = toldB V X cs x := by
  unfold toldB
  by_cases hx : x ∈ cs
  · rw [decide_eq_true hx, decide_eq_true (show x ∈ cs ++ [c] by simp [hx])]
  · rw [decide_eq_false hx]
    by_cases e : x = c
    · subst e
      unfold cutV at h
      rw [if_neg (fun h2 => hx h2.2)] at h
      rw [decide_eq_false (show ¬ (V 2 x &&& X ≠ V 2 x) from fun h2 => h2 h)]
      simp
    · rw [decide_eq_false (show ¬ (x ∈ cs ++ [c]) by simp [hx, e])]
theorem told_new {V : Nat → Nat → Nat} {X c : Nat} {cs : List Nat} (h : ¬ (cutV V X cs 2 c &&& X = cutV V X cs 2 c)) (x : Nat) : toldB V X (cs ++ [c]) x = (decide (x = c) || toldB V X cs x) := by
  unfold toldB
  by_cases hc : c ∈ cs
  · exfalso
    unfold cutV at h
    rw [if_pos ⟨rfl, hc⟩, Nat.and_assoc, Nat.and_self] at h
    exact h rfl
  · unfold cutV at h
    rw [if_neg (fun h2 => hc h2.2)] at h
    by_cases e : x = c
    · subst e
      rw [decide_eq_true (show x ∈ cs ++ [x] by simp), decide_eq_true (show V 2 x &&& X ≠ V 2 x from h), decide_eq_true rfl]
      rfl
    · have : decide (x ∈ cs ++ [c]) = decide (x ∈ cs) := by rw [decide_eq_decide]; simp [e]
      rw [this, decide_eq_false e, Bool.false_or]
/-- Where settle's loop stands. -/
def SL (w : World) (bR gR bN gN n : Nat) (V : Nat → Nat → Nat) (cs : List Nat) (X0 i : Nat) (r : Int) (wr : World) : Prop :=
  ∃ Xr Nr, ∃ done : Nat → Prop, NextP n Nr i r ∧ RowAt wr bR gR n Xr ∧ RowAt wr bN gN n Nr ∧ Below w.heap.size w wr ∧ (∀ t, done t → t < n ∧ t ∉ cs ∧ goesB V cs t = true) ∧ (∀ b, b < n → (Xr.testBit b = true ↔ X0.testBit b = true ∨ ∃ t, done t ∧ (b = t ∨ (V 2 t).testBit b = true))) ∧ (∀ t, t < n → Nr.testBit t = true → goesB V cs t = true ∧ t ∉ cs) ∧ (∀ t, t < n → t ∉ cs → goesB V cs t = true → Nr.testBit t = true ∨ Xr.testBit t = true) ∧ ∀ t, t < i → t < n → t ∉ cs → goesB V cs t = true → Xr.testBit t = true
/-- Where it makes rows less. -/
def UL (B : Nat) (k : CB) (n m lb lg LV : Nat) (f : Int × Int → Int) (V : Nat → Nat → Nat) (cs : List Nat) (bR gR X i : Nat) (w wr : World) : Prop :=
  ∃ LV', CS B k n wr f (cutV V X (cs.take i)) (some (lb, lg, LV')) m ∧ RowAt wr bR gR n X ∧ (∀ x, x < n → LV'.testBit x = (LV.testBit x || toldB V X (cs.take i) x)) ∧ Fr (fun g => g = lg ∨ ∃ i, i < n ∧ g = k.rg 2 i) w wr
theorem own_cell {B : Nat} {v : Value} {cs : List Nat} (h : Lst.OwnI B W v (natI cs)) (hl : cs.length ≤ 100000) : ∃ p c, v = .slice p cs.length c ∧ ∀ i, i < cs.length → ∃ g o, p = some ⟨g, o, none⟩ ∧ ∀ W' : World, (∀ g', v.ownBlock = some g' → W'.heap[g']? = W.heap[g']?) → W'.cell? ⟨g, o + i, none⟩ = some (.int .i64 ((cs.getD i 0 : Nat) : Int)) := by
  obtain ⟨p, c, hv, _, hc⟩ := (h.ints (by rw [natI_len]; omega)).open_
  rw [natI_len] at hv hc
  refine ⟨p, c, hv, fun i hi => ?_⟩
  obtain ⟨g, o, h1, _, h2, h3⟩ := hc i hi
  refine ⟨g, o, h1, fun W' hs => ?_⟩
  rw [World.cell?_of_block (w := W) (a := ⟨g, o + i, none⟩) (hs g (by rw [hv, h1]; rfl)), h3]
  unfold natI
  simp [List.getD_eq_getElem?_getD, hi]
set_option maxRecDepth 100000 in
set_option maxHeartbeats 8000000 in
theorem settle_any (h : CS B k n w f V (some (lb, lg, LV)) m) (hT : TabW w) {Bc : Nat} {v : Value} {cs : List Nat} (ho : Lst.OwnI Bc w v (natI cs)) (hcs : ∀ x ∈ cs, x < n) (hl : cs.length ≤ 4096) :
    Calls Tryd.prog 45 #[.pointer (some ⟨k.b, 0, none⟩), v] w (SetP B k n m lb lg LV f V cs w) := by
  obtain ⟨pc, cc, rfl, hcell⟩ := own_cell ho (by omega)
  have HC := Lib.hid h
  have HT := Lib.hid hT
  have HO := Lib.hid ho
  have HN := Lib.hid (nodes_any h.v)
  have hn4 : (n : Int) ≤ 4096 := by have := h.hn; omega
  have HNEW : Hid (∀ W, Calls Tryd.prog 29 #[.int .i64 (n : Int)] W (RowNew n 0 W)) := Lib.hid fun W => by
    have := new_row (n : Int) W
    rw [show Bits.rowLen (n : Int) = n by unfold Bits.rowLen; omega] at this
    exact this
  have HCS := Lib.hid hcs
  have HL := Lib.hid hl
  have HNB : Hid (∀ W, Below w.heap.size w W → Calls Tryd.prog 13 #[.pointer (some ⟨k.b, 0, none⟩)] W (HeldP (.int .i64 (n : Int)) W)) := Lib.hid fun W hW => nodes_any (HC.out.below hW).v
  have HCE : Hid (∀ i, i < cs.length → ∃ g o, pc = some ⟨g, o, none⟩ ∧ (∀ W' : World, Below w.heap.size w W' → W'.cell? ⟨g, o + i, none⟩ = some (.int .i64 ((cs.getD i 0 : Nat) : Int))) ∧ cs.getD i 0 < n) := Lib.hid fun i hi => by
    obtain ⟨g, o, h1, h2⟩ := hcell i hi
    refine ⟨g, o, h1, fun W' hW => h2 W' (fun g' hg => hW.block _ (World.ownsRow.lt ho g' hg).2), hcs _ ?_⟩
    rw [List.getD_eq_getElem?_getD, List.getElem?_eq_getElem hi]
    exact List.getElem_mem hi
  have HCL := Lib.hid hcell
  obtain ⟨M, hM⟩ : ∃ M, M = cs.length := ⟨_, rfl⟩
  have HMM := Lib.hid hM
  have hMi : (M : Int) ≤ 4096 := by omega
  rw [← hM] at HCE HCL ⊢
  clear h hT ho hcs hl hcell hM
  go_enter Tryd.func45, Tryd.ntmps45
  go_wp2_with fail
  refine HN.out.mono ?_
  rintro e w1 ⟨rfl, hb⟩
  have HB1 := Lib.hid hb
  clear hb HN
  go_wp2_with fail
  refine (HNEW.out _).mono ?_
  rintro e w2 ⟨bR, gR, rfl, hr, hb, hb1, hb2⟩
  have HB2 : Hid (Below w.heap.size w w2) := Lib.hid (HB1.out.trans (hb.mono HB1.out.size))
  have HR2 : Hid (RowAt w2 bR gR n 0 ∧ w.heap.size ≤ bR ∧ w.heap.size ≤ gR) := Lib.hid ⟨hr, by have := HB1.out.size; omega, by have := HB1.out.size; omega⟩
  clear hr hb hb1 hb2 HB1
  go_wp2_with fail
  refine (HNB.out _ HB2.out).mono ?_
  rintro e w3 ⟨rfl, hb⟩
  have HB3 : Hid (Below w.heap.size w w3) := Lib.hid (HB2.out.trans (hb.mono HB2.out.size))
  have HR3 : Hid (RowAt w3 bR gR n 0) := Lib.hid (HR2.out.1.below hb)
  clear hb
  go_wp2_with fail
  refine (HNEW.out _).mono ?_
  rintro e w4 ⟨bN, gN, rfl, hr, hb, hb1, hb2⟩
  have HB4 : Hid (Below w.heap.size w w4) := Lib.hid (HB3.out.trans (hb.mono HB3.out.size))
  have HR4 : Hid (RowAt w4 bR gR n 0) := Lib.hid (HR3.out.below hb)
  have HN4 : Hid (RowAt w4 bN gN n 0 ∧ w.heap.size ≤ bN ∧ w.heap.size ≤ gN ∧ gR ≠ gN) := Lib.hid ⟨hr, by have := HB3.out.size; omega, by have := HB3.out.size; omega, fun e => by have := heap_lt HR3.out.2.1; omega⟩
  clear hr hb hb1 hb2 HB3 HR3 HB2
  go_wp2_with fail
  go_loopw [20] (fun s20 wr => ∃ i : Nat, s20 = .int .i64 (i : Int) ∧ i ≤ M ∧ Hid (Below w.heap.size w wr ∧ RowAt wr bR gR n 0 ∧ ∃ Y, RowAt wr bN gN n Y ∧ ∀ t, t < n → Y.testBit t = goesB V (cs.take i) t)) (fun s20 _ => M - (intOf s20).toNat)
  case atStart => exact ⟨0, rfl, Nat.zero_le _, Lib.hid ⟨HB4.out, HR4.out, 0, HN4.out.1, fun t _ => by simp [goesB]⟩⟩
  case round =>
    obtain ⟨i, rfl, hi, HI⟩ := hrel
    by_cases hlt : i < M
    · obtain ⟨hbw, hrR, Y, hrN, hY⟩ := HI.out
      obtain ⟨g, o, rfl, hcx, hxn⟩ := HCE.out i hlt
      have hx := hcx wr hbw
      have hii : (i : Int) < (M : Int) := by omega
      obtain ⟨c, hcd⟩ : ∃ c, c = cs.getD i 0 := ⟨_, rfl⟩
      rw [← hcd] at hx hxn
      have HCD := Lib.hid hcd
      have hci : (c : Int) < (n : Int) := by omega
      have hcs2 := HC.out.below hbw
      obtain ⟨_, c1, _, _, _⟩ := hcs2.cells
      obtain ⟨g0, hp, hlt2, hcl⟩ := hcs2.way (a := 0) (by omega) hxn
      have hro := hcs2.row 0 (by omega) c hxn
      have hgn : k.rg 0 c ≠ gN := fun e => by have := heap_lt (HC.out.row 0 (by omega) c hxn).2.1; have := HN4.out.2.2.1; omega
      have hbn : k.rb 0 c ≠ gN := row_ne hro hrN
      have HRN : Hid (bR ≠ gN) := Lib.hid (row_ne hrR hrN)
      have HOR := Lib.hid (or_row bN gN n Y (k.rb 0 c) (k.rg 0 c) n (V 0 c) wr hrN hro ⟨hbn, hgn⟩)
      have HBW := Lib.hid hbw
      have HRR := Lib.hid hrR
      have HY := Lib.hid hY
      rw [hp] at c1
      clear hbw hrR hrN hY hcx hcd hcs2 hro hgn hbn hp HI
      go_wp2_with fail
      refine HOR.out.mono ?_
      rintro e w5 ⟨rfl, hr5, hg5⟩
      have HN5 : Hid (Below w.heap.size w w5 ∧ RowAt w5 bR gR n 0 ∧ ∃ Y, RowAt w5 bN gN n Y ∧ ∀ t, t < n → Y.testBit t = goesB V (cs.take (i + 1)) t) := Lib.hid ⟨Below.grown HBW.out hg5 HBW.out.size (fun z hz => by injection hz with hz; rw [← hz]; exact HN4.out.2.2.1), by
        have h1 := HRR.out
        exact h1.keep (hg5.block _ (heap_lt h1.1) (fun e => HRN.out (Option.some.inj e))) (hg5.block _ (heap_lt h1.2.1) (fun e => HN4.out.2.2.2 (Option.some.inj e))), _, hr5, fun t ht => by
        rw [orV_testBit, HY.out t ht, decide_eq_true ht, Bool.true_and]
        unfold goesB
        rw [List.take_succ_eq_append_getElem (by have := HMM.out; omega), List.any_append]
        have : cs[i]'(by have := HMM.out; omega) = c := by
          rw [HCD.out, List.getD_eq_getElem?_getD, List.getElem?_eq_getElem (by have := HMM.out; omega)]; rfl
        rw [this]
        simp⟩
      clear hr5 hg5 HOR HBW HRR HY
      go_wp2_with fail
      go_roundw
      case rel => exact ⟨i + 1, by go_num, hlt, HN5⟩
      case measure => simp [intOf]; omega
    · have e : M = i := by omega
      subst e
      have HI2 : Hid (Below w.heap.size w wr ∧ RowAt wr bR gR n 0 ∧ ∃ Y, RowAt wr bN gN n Y ∧ ∀ t, t < n → Y.testBit t = goesB V cs t) := Lib.hid (by
        have h := HI.out
        rw [HMM.out, List.take_length] at h
        exact h)
      obtain ⟨hbw, hrR, Y, hrN, hY⟩ := HI2.out
      have HNO := Lib.hid (HNB.out wr hbw)
      have HOF : Hid (∀ W, Below w.heap.size w W → Calls Tryd.prog 47 #[.int .i64 (n : Int), .slice pc M cc] W (RowNew n (ofV n (natI cs)) W)) := Lib.hid fun W hW => by
        have := of_row (n : Int) W ((HO.out.ints (by rw [natI_len]; have := HL.out; omega)).below hW)
        rw [show Bits.rowLen (n : Int) = n by unfold Bits.rowLen; omega, ← HMM.out] at this
        exact this
      have HBW := Lib.hid hbw
      have HRR := Lib.hid hrR
      have HRN := Lib.hid hrN
      have HY := Lib.hid hY
      clear hbw hrR hrN hY HI HI2 HNEW hi hlt HR4 HB4
      go_wp2_with fail
      refine HNO.out.mono ?_
      rintro e w5 ⟨rfl, hb⟩
      have HB5 : Hid (Below w.heap.size w w5) := Lib.hid (HBW.out.trans (hb.mono HBW.out.size))
      have HRR5 := Lib.hid (HRR.out.below hb)
      have HRN5 := Lib.hid (HRN.out.below hb)
      clear hb HBW HRR HRN HNO
      go_wp2_with fail
      refine (HOF.out w5 HB5.out).mono ?_
      rintro e w6 ⟨bO, gO, rfl, hrO, hb, hb1, hb2⟩
      have HB6 : Hid (Below w.heap.size w w6) := Lib.hid (HB5.out.trans (hb.mono HB5.out.size))
      have HRR6 := Lib.hid (HRR5.out.below hb)
      have HRN6 := Lib.hid (HRN5.out.below hb)
      have HRO6 := Lib.hid hrO
      have HG6 : Hid (gO ≠ gN ∧ gO ≠ gR) := Lib.hid ⟨fun e => by have := heap_lt HRN5.out.2.1; omega, fun e => by have := heap_lt HRR5.out.2.1; omega⟩
      have HGN : Hid (w.heap.size ≤ gN) := Lib.hid HN4.out.2.2.1
      have HMIN := Lib.hid (minus_row bN gN n Y bO gO n (ofV n (natI cs)) w6 HRN6.out hrO ⟨row_ne hrO HRN6.out, HG6.out.1⟩)
      clear hrO hb hb1 hb2 HB5 HRR5 HRN5 HOF
      go_wp2_with fail
      refine HMIN.out.mono ?_
      rintro e w7 ⟨rfl, hr7, hg7⟩
      have HCU : Hid (∀ i, i < M → ∃ g o, pc = some ⟨g, o, none⟩ ∧ (∀ W' : World, Fr (fun g => g = lg ∨ ∃ i, i < n ∧ g = k.rg 2 i) w W' → W'.cell? ⟨g, o + i, none⟩ = some (.int .i64 ((cs.getD i 0 : Nat) : Int))) ∧ cs.getD i 0 < n) := Lib.hid fun i hi => by
        obtain ⟨g, o, h1, h2⟩ := HCL.out i hi
        obtain ⟨_, _, _, _, h4⟩ := HCE.out i hi
        refine ⟨g, o, h1, fun W' hW => h2 W' (fun g' hg => hW.block (World.ownsRow.lt HO.out g' (by rw [HMM.out] at hg; exact hg)).2 (fun hF => ?_)), h4⟩
        rcases hF with e | ⟨x, hx, e⟩
        · have := own_ne HO.out (HC.out.lst _ rfl).1.2.1 (by decide)
          rw [HMM.out] at hg
          rw [hg, e] at this
          exact this rfl
        · have := own_ne HO.out (HC.out.row 2 (by omega) x hx).2.1 (by decide)
          rw [HMM.out] at hg
          rw [hg, e] at this
          exact this rfl
      have HN4 : Hid (gR ≠ gN) := Lib.hid HN4.out.2.2.2
      have HG4 : Hid (w.heap.size ≤ gN) := Lib.hid HGN.out
      obtain ⟨N1, hN1⟩ : ∃ N1, N1 = minusV Y (ofV n (natI cs)) := ⟨_, rfl⟩
      have HOB : Hid (∀ t, (ofV n (natI cs)).testBit t = decide (t ∈ cs)) := Lib.hid fun t => by
        unfold ofV
        rw [ofV_bit cs 0 HCS.out]
        simp
      have HN1 : Hid (∀ t, t < n → N1.testBit t = (goesB V cs t && !decide (t ∈ cs))) := Lib.hid fun t ht => by rw [hN1, minusV_testBit, HY.out t ht, HOB.out]
      have HB7 : Hid (Below w.heap.size w w7) := Lib.hid (Below.grown HB6.out hg7 HB6.out.size (fun z hz => by injection hz with hz; rw [← hz]; exact HG4.out))
      have HN7 : Hid (RowAt w7 bN gN n N1) := Lib.hid (by rw [hN1]; exact hr7)
      have keep7 : ∀ {b g X : Nat}, RowAt w6 b g n X → g ≠ gN → RowAt w7 b g n X := fun {b g X} h1 hne => h1.keep (hg7.block _ (heap_lt h1.1) (fun e => (row_ne h1 HRN6.out) (Option.some.inj e))) (hg7.block _ (heap_lt h1.2.1) (fun e => hne (Option.some.inj e)))
      have HX7 : Hid (RowAt w7 bR gR n 0) := Lib.hid (keep7 HRR6.out HN4.out)
      have HO7 : Hid (RowAt w7 bO gO n (ofV n (natI cs))) := Lib.hid (keep7 HRO6.out HG6.out.1)
      have HYB : Hid (Y < 2 ^ n) := Lib.hid HRN6.out.2.2.2
      clear keep7 hr7 hg7 HMIN HRN6 HRO6 HRR6 HB6
      by_cases hch : minusV Y (ofV n (natI cs)) = Y
      · have hd : decide (minusV Y (ofV n (natI cs)) ≠ Y) = false := decide_eq_false (fun h => h hch)
        have HX0 : Hid (∀ b, b < n → ((0 : Nat).testBit b = true ↔ b ∈ cs ∧ ∃ y ∈ cs, goesB V cs y = true)) := Lib.hid fun b hb => by
          constructor
          · intro h; simp at h
          · rintro ⟨_, y, hy, hg⟩
            have hyn := HCS.out y hy
            have h1 : (minusV Y (ofV n (natI cs))).testBit y = Y.testBit y := by rw [hch]
            rw [minusV_testBit, HY.out y hyn, HOB.out, decide_eq_true hy, hg] at h1
            cases h1
        rw [hd]
        obtain ⟨X0, hX0⟩ : ∃ X0 : Nat, X0 = 0 := ⟨_, rfl⟩
        rw [← hX0] at HX0 HX7
        obtain ⟨w8, hw8⟩ : ∃ w8, w8 = w7 := ⟨_, rfl⟩
        rw [← hw8] at HB7 HN7 HX7 HO7 ⊢
        have HB8 := HB7
        have HN8 := HN7
        have HX8 := HX7
        have HN8C := HO7
        clear hch hd hX0 hN1 HB7 HN7 HX7 HO7 hw8 HY HYB HOB HNB
        have HNX8 := Lib.hid (next_at bN gN n N1 0 0 (by decide) w8 HN8.out (fun _ => (HT.out.below HB8.out).1))
        clear HN8C
        go_wp2_with fail
        refine HNX8.out.mono ?_
        rintro e w9 ⟨⟨r, rfl, hnp⟩, q, rfl⟩
        obtain ⟨w9, hw9⟩ : ∃ X, X = w8.drewN q := ⟨_, rfl⟩
        rw [← hw9]
        have hrb : -1 ≤ r ∧ r < (n : Int) := by rcases hnp with ⟨h, _⟩ | ⟨j, h, _, hj, _⟩ <;> omega
        have HI9 : Hid (SL w bR gR bN gN n V cs X0 0 r w9) := Lib.hid (by
          have hb : Below w8.heap.size w8 w9 := by rw [hw9]; exact below_drewN (Below.refl _ _) q
          exact ⟨X0, N1, fun _ => False, hnp, HX8.out.below hb, HN8.out.below hb, HB8.out.trans (hb.mono HB8.out.size), fun t h => h.elim, fun b _ => ⟨.inl, fun h => h.elim id (fun ⟨_, h, _⟩ => h.elim)⟩, fun t ht h => by
            have := HN1.out t ht
            rw [this, Bool.and_eq_true] at h
            exact ⟨h.1, by simpa using h.2⟩, fun t ht h1 h2 => .inl (by rw [HN1.out t ht, h2]; simpa using h1), fun t h => absurd h (Nat.not_lt_zero _)⟩)
        clear hw9 hnp HNX8 HX8 HN8 HB8 HN1
        go_wp2_with fail
        go_loopw [9] (fun s9 wr => ∃ (i : Nat) (r : Int), s9 = .int .i64 r ∧ ((-1 ≤ r ∧ r < (n : Int)) ∧ i ≤ n) ∧ Hid (SL w bR gR bN gN n V cs X0 i r wr)) (fun s9 _ => mN n (intOf s9))
        case atStart => exact ⟨0, r, rfl, ⟨hrb, Nat.zero_le _⟩, HI9⟩
        case round =>
          clear HI9 hrb
          obtain ⟨i, r, rfl, ⟨hrb, hin⟩, HI⟩ := hrel
          by_cases hr0 : 0 ≤ r
          · obtain ⟨Xr, Nr, done, hnp, hrX, hrN, hbw, hdo, hXb, hN1, hN2, hN3⟩ := HI.out
            obtain ⟨j, rfl, hij, hjn, hjb, hno⟩ : ∃ j : Nat, r = (j : Int) ∧ i ≤ j ∧ j < n ∧ Nr.testBit j = true ∧ ∀ x, i ≤ x → x < j → Nr.testBit x = false := by
              rcases hnp with ⟨h, _⟩ | ⟨j, h1, h2, h3, h4, h5⟩
              · omega
              · exact ⟨j, h1, h2, h3, h4, h5⟩
            have hcs2 := HC.out.below hbw
            obtain ⟨_, _, _, c3, _⟩ := hcs2.cells
            obtain ⟨g0, hp, hlt2, hcl⟩ := hcs2.way (a := 2) (by omega) hjn
            have HSET := Lib.hid (Bits.set_any bR gR n Xr (j : Int) true wr hrX)
            have HJ : Hid ((i ≤ j ∧ j < n ∧ Nr.testBit j = true ∧ ∀ x, i ≤ x → x < j → Nr.testBit x = false) ∧ RowAt wr bR gR n Xr ∧ RowAt wr bN gN n Nr ∧ Below w.heap.size w wr ∧ (∀ t, done t → t < n ∧ t ∉ cs ∧ goesB V cs t = true) ∧ (∀ b, b < n → (Xr.testBit b = true ↔ X0.testBit b = true ∨ ∃ t, done t ∧ (b = t ∨ (V 2 t).testBit b = true))) ∧ (∀ t, t < n → Nr.testBit t = true → goesB V cs t = true ∧ t ∉ cs) ∧ (∀ t, t < n → t ∉ cs → goesB V cs t = true → Nr.testBit t = true ∨ Xr.testBit t = true) ∧ ∀ t, t < i → t < n → t ∉ cs → goesB V cs t = true → Xr.testBit t = true) := Lib.hid ⟨⟨hij, hjn, hjb, hno⟩, hrX, hrN, hbw, hdo, hXb, hN1, hN2, hN3⟩
            have hjni : (j : Int) < (n : Int) := by omega
            rw [hp] at c3
            clear hnp hrX hrN hbw hdo hXb hN1 hN2 hN3 hij hjb hno hcs2 c3 hp hlt2 hcl HI
            go_wp2_with fail
            refine HSET.out.mono ?_
            rintro e wa ⟨rfl, hra, hga⟩
            have HBA : Hid (Below w.heap.size w wa) := Lib.hid (Below.grown HJ.out.2.2.2.1 hga HJ.out.2.2.2.1.size (fun z hz => by injection hz with hz; rw [← hz]; exact HR2.out.2.2))
            have HNA : Hid (RowAt wa bN gN n Nr) := Lib.hid (by
              have h1 := HJ.out.2.2.1
              exact h1.keep (hga.block _ (heap_lt h1.1) (fun e => (row_ne h1 HJ.out.2.1) (Option.some.inj e))) (hga.block _ (heap_lt h1.2.1) (fun e => HN4.out.symm (Option.some.inj e))))
            have hcs2 := HC.out.below HBA.out
            obtain ⟨_, _, _, c3, _⟩ := hcs2.cells
            obtain ⟨g0, hp, hlt2, hcl⟩ := hcs2.way (a := 2) (by omega) hjn
            rw [hp] at c3
            have hro := hcs2.row 2 (by omega) j hjn
            have HOR := Lib.hid (or_row bR gR n (setV n Xr (j : Int) true) (k.rb 2 j) (k.rg 2 j) n (V 2 j) wa hra hro ⟨row_ne hro hra, fun e => by have := heap_lt (HC.out.row 2 (by omega) j hjn).2.1; have := HR2.out.2.2; omega⟩)
            have HRA := Lib.hid hra
            clear hra hga hcs2 hro hp HSET
            go_wp2_with fail
            refine HOR.out.mono ?_
            rintro e wb ⟨rfl, hrb2, hgb⟩
            obtain ⟨Xb, hXb⟩ : ∃ Xb, Xb = orV n (setV n Xr (j : Int) true) (V 2 j) := ⟨_, rfl⟩
            rw [← hXb] at hrb2
            have HXB : Hid (∀ b, b < n → (Xb.testBit b = true ↔ Xr.testBit b = true ∨ b = j ∨ (V 2 j).testBit b = true)) := Lib.hid fun b hb => by
              rw [hXb, orV_testBit, setV_bit hjn, decide_eq_true hb, Bool.true_and, Bool.or_eq_true]
              by_cases e : b = j
              · rw [if_pos e]; simp [e]
              · rw [if_neg e]; simp [e]
            have HBB : Hid (Below w.heap.size w wb) := Lib.hid (Below.grown HBA.out hgb HBA.out.size (fun z hz => by injection hz with hz; rw [← hz]; exact HR2.out.2.2))
            have HNBB : Hid (RowAt wb bN gN n Nr) := Lib.hid (by
              have h1 := HNA.out
              exact h1.keep (hgb.block _ (heap_lt h1.1) (fun e => (row_ne h1 HRA.out) (Option.some.inj e))) (hgb.block _ (heap_lt h1.2.1) (fun e => HN4.out.symm (Option.some.inj e))))
            have HMN := Lib.hid (minus_row bN gN n Nr bR gR n Xb wb HNBB.out hrb2 ⟨row_ne hrb2 HNBB.out, HN4.out⟩)
            have HRB := Lib.hid hrb2
            clear hrb2 hgb hXb HOR HNA HBA HRA c3 hlt2 hcl
            go_wp2_with fail
            refine HMN.out.mono ?_
            rintro e wc ⟨rfl, hrc, hgc⟩
            obtain ⟨Nc, hNc⟩ : ∃ Nc, Nc = minusV Nr Xb := ⟨_, rfl⟩
            rw [← hNc] at hrc
            have HNC : Hid (∀ t, Nc.testBit t = (Nr.testBit t && !Xb.testBit t)) := Lib.hid fun t => by rw [hNc, minusV_testBit]
            have HBC : Hid (Below w.heap.size w wc) := Lib.hid (Below.grown HBB.out hgc HBB.out.size (fun z hz => by injection hz with hz; rw [← hz]; exact HG4.out))
            have HXC : Hid (RowAt wc bR gR n Xb) := Lib.hid (by
              have h1 := HRB.out
              exact h1.keep (hgc.block _ (heap_lt h1.1) (fun e => (row_ne h1 HNBB.out) (Option.some.inj e))) (hgc.block _ (heap_lt h1.2.1) (fun e => HN4.out (Option.some.inj e))))
            have HRC := Lib.hid hrc
            have HNXT := Lib.hid (next_at bN gN n Nc (j + 1) ((j : Int) + 1) (by omega) wc hrc (fun _ => (HT.out.below HBC.out).1))
            clear hrc hgc hNc HMN HRB HNBB HBB
            go_wp2_with fail
            refine HNXT.out.mono ?_
            rintro e wd ⟨⟨rd, rfl, hnp⟩, q, rfl⟩
            obtain ⟨wd, hwd⟩ : ∃ X, X = wc.drewN q := ⟨_, rfl⟩
            rw [← hwd]
            have hrd : -1 ≤ rd ∧ rd < (n : Int) := by rcases hnp with ⟨h, _⟩ | ⟨j, h, _, hj, _⟩ <;> omega
            have HME : Hid (mN n rd < mN n (j : Int)) := Lib.hid (by
              unfold mN
              rcases hnp with ⟨h, _⟩ | ⟨j6, h, h2, hj, _⟩
              · rw [if_pos (by omega), if_neg (by omega)]; omega
              · rw [if_neg (by omega), if_neg (by omega)]; omega)
            have HID : Hid (SL w bR gR bN gN n V cs X0 (j + 1) rd wd) := Lib.hid (by
              have hb : Below wc.heap.size wc wd := by rw [hwd]; exact below_drewN (Below.refl _ _) q
              obtain ⟨⟨hij, hjn', hjb, hno⟩, _, _, _, hdo, hXb, hN1, hN2, hN3⟩ := HJ.out
              have hjx := HXB.out
              refine ⟨Xb, Nc, fun t => done t ∨ t = j, hnp, HXC.out.below hb, HRC.out.below hb, HBC.out.trans (hb.mono HBC.out.size), fun t h => ?_, fun b hbn => ?_, fun t ht h => ?_, fun t ht h1 h2 => ?_, fun t ht ht2 h1 h2 => ?_⟩
              · rcases h with h | rfl
                · exact hdo t h
                · exact ⟨hjn', (hN1 t hjn' hjb).2, (hN1 t hjn' hjb).1⟩
              · rw [hjx b hbn, hXb b hbn]
                constructor
                · rintro ((h | ⟨t, h1, h2⟩) | h | h)
                  · exact .inl h
                  · exact .inr ⟨t, .inl h1, h2⟩
                  · exact .inr ⟨j, .inr rfl, .inl h⟩
                  · exact .inr ⟨j, .inr rfl, .inr h⟩
                · rintro (h | ⟨t, h1 | rfl, h2⟩)
                  · exact .inl (.inl h)
                  · exact .inl (.inr ⟨t, h1, h2⟩)
                  · exact .inr h2
              · rw [HNC.out, Bool.and_eq_true] at h
                exact hN1 t ht h.1
              · rw [HNC.out]
                cases hx : Xb.testBit t with
                | true => exact .inr rfl
                | false =>
                  rcases hN2 t ht h1 h2 with h | h
                  · exact .inl (by rw [h]; rfl)
                  · have := (hjx t ht).2 (.inl h)
                    rw [hx] at this
                    cases this
              · refine (hjx t ht2).2 ?_
                by_cases e : t = j
                · exact .inr (.inl e)
                · by_cases e2 : t < i
                  · exact .inl (hN3 t e2 ht2 h1 h2)
                  · rcases hN2 t ht2 h1 h2 with h | h
                    · rw [hno t (by omega) (by omega)] at h; cases h
                    · exact .inl h)
            clear hwd hnp HNXT HXC HRC HBC HJ HXB HNC
            go_wp2_with fail
            go_roundw
            case rel => exact ⟨j + 1, rd, rfl, ⟨hrd, by omega⟩, HID⟩
            case measure => exact HME.out
          · have HFIN : Hid (∃ X, SetX n V cs X ∧ RowAt wr bR gR n X ∧ Below w.heap.size w wr) := Lib.hid (by
              obtain ⟨Xr, Nr, done, hnp, hrX, hrN, hbw, hdo, hXb, hN1, hN2, hN3⟩ := HI.out
              refine ⟨Xr, ⟨done, hdo, fun b hb => by rw [hXb b hb, HX0.out b hb], fun t ht h1 h2 => ?_⟩, hrX, hbw⟩
              by_cases e : t < i
              · exact hN3 t e ht h1 h2
              · rcases hN2 t ht h1 h2 with h | h
                · rcases hnp with ⟨_, h3⟩ | ⟨j, h3, _⟩
                  · rw [h3 t (by omega) ht] at h; cases h
                  · omega
                · exact h)
            clear HI hrb hin
            obtain ⟨X, hSX, hrX, hbw⟩ := HFIN.out
            have HSX := Lib.hid hSX
            have HU0 : Hid (UL B k n m lb lg LV f V cs bR gR X 0 w wr) := Lib.hid ⟨LV, by
              have : cutV V X (cs.take 0) = V := by funext a x; unfold cutV; simp
              rw [this]
              exact HC.out.below hbw, hrX, fun x _ => by simp [toldB], Fr.of_below hbw⟩
            clear hSX hrX hbw HFIN
            go_wp2_with fail
            go_loopw [69] (fun s69 wr => ∃ i : Nat, s69 = .int .i64 (i : Int) ∧ i ≤ M ∧ Hid (UL B k n m lb lg LV f V cs bR gR X i w wr)) (fun s69 _ => M - (intOf s69).toNat)
            case atStart => exact ⟨0, rfl, Nat.zero_le _, HU0⟩
            case round =>
              clear HU0
              obtain ⟨i, rfl, hi, HU⟩ := hrel
              by_cases hlt : i < M
              · obtain ⟨g, o, rfl, hcx, hxn⟩ := HCU.out i hlt
                obtain ⟨LVi, hcsU, hrX, hLV, hfrU⟩ := HU.out
                have hx := hcx wr hfrU
                have hii : (i : Int) < (M : Int) := by omega
                obtain ⟨c, hcd⟩ : ∃ c, c = cs.getD i 0 := ⟨_, rfl⟩
                rw [← hcd] at hx hxn
                have HCD : Hid (cs.take (i + 1) = cs.take i ++ [c]) := Lib.hid (by
                  have hi2 : i < cs.length := by have := HMM.out; omega
                  rw [List.take_succ_eq_append_getElem hi2, hcd, List.getD_eq_getElem?_getD, List.getElem?_eq_getElem hi2]
                  rfl)
                have hci : (c : Int) < (n : Int) := by omega
                obtain ⟨_, _, _, c3, _⟩ := hcsU.cells
                obtain ⟨g0, hp, hlt2, hcl⟩ := hcsU.way (a := 2) (by omega) hxn
                have hro := hcsU.row 2 (by omega) c hxn
                have hgn : gR ≠ k.rg 2 c := fun e => by have := heap_lt (HC.out.row 2 (by omega) c hxn).2.1; have := HR2.out.2.2; omega
                have HAND := Lib.hid (and_row (k.rb 2 c) (k.rg 2 c) n (cutV V X (cs.take i) 2 c) bR gR n X wr hro hrX ⟨row_ne hrX hro, hgn⟩)
                have HUU : Hid (CS B k n wr f (cutV V X (cs.take i)) (some (lb, lg, LVi)) m ∧ RowAt wr bR gR n X ∧ (∀ x, x < n → LVi.testBit x = (LV.testBit x || toldB V X (cs.take i) x)) ∧ Fr (fun g => g = lg ∨ ∃ i, i < n ∧ g = k.rg 2 i) w wr) := Lib.hid ⟨hcsU, hrX, hLV, hfrU⟩
                have HGX : Hid (gR ≠ k.rg 2 c ∧ gR ≠ lg) := Lib.hid ⟨hgn, fun e => by have h9 : lg < w.heap.size := heap_lt (HC.out.lst _ rfl).1.2.1; have := HR2.out.2.2; omega⟩
                have HXN := Lib.hid hxn
                rw [hp] at c3
                clear hcsU hrX hLV hfrU hcx hcd hro hgn hp HU
                by_cases hch : cutV V X (cs.take i) 2 c &&& X = cutV V X (cs.take i) 2 c
                · have hd : decide (cutV V X (cs.take i) 2 c &&& X ≠ cutV V X (cs.take i) 2 c) = false := decide_eq_false (fun h => h hch)
                  have HCH := Lib.hid hch
                  unfold Turned at HAND
                  rw [hd] at HAND
                  clear hch hd
                  go_wp2_with fail
                  refine HAND.out.mono ?_
                  rintro e wa ⟨rfl, hra, hga⟩
                  have HN5 : Hid (UL B k n m lb lg LV f V cs bR gR X (i + 1) w wa) := Lib.hid (by
                    obtain ⟨h1, h2, h3, h4⟩ := HUU.out
                    have hc1 := h1.turn (a := 2) (by omega) HXN.out hra hga
                    rw [cutV_succ, ← HCD.out] at hc1
                    refine ⟨LVi, hc1, h2.keep (hga.block _ (heap_lt h2.1) (fun e => (row_ne h2 (h1.row 2 (by omega) c HXN.out)) (Option.some.inj e))) (hga.block _ (heap_lt h2.2.1) (fun e => HGX.out.1 (Option.some.inj e))), fun x hx => ?_, h4.trans (F' := fun g => g = k.rg 2 c) (Fr.of_grown hga (fun z hz => by injection hz with hz; exact hz.symm)) (fun g _ e => .inr ⟨c, HXN.out, e⟩)⟩
                    rw [h3 x hx, HCD.out, told_succ HCH.out])
                  clear hra hga HAND HUU
                  go_wp2_with fail
                  go_roundw
                  case rel => exact ⟨i + 1, by go_num, hlt, HN5⟩
                  case measure => simp [intOf]; omega
                · have hd : decide (cutV V X (cs.take i) 2 c &&& X ≠ cutV V X (cs.take i) 2 c) = true := decide_eq_true hch
                  have HCH := Lib.hid hch
                  unfold Turned at HAND
                  rw [hd] at HAND
                  clear hch hd
                  go_wp2_with fail
                  refine HAND.out.mono ?_
                  rintro e wa ⟨rfl, hra, hga⟩
                  have HUA : Hid (CS B k n wa f (cutV V X (cs.take (i + 1))) (some (lb, lg, LVi)) m ∧ RowAt wa bR gR n X ∧ Fr (fun g => g = lg ∨ ∃ i, i < n ∧ g = k.rg 2 i) w wa) := Lib.hid (by
                    obtain ⟨h1, h2, h3, h4⟩ := HUU.out
                    have hc1 := h1.turn (a := 2) (by omega) HXN.out hra hga
                    rw [cutV_succ, ← HCD.out] at hc1
                    exact ⟨hc1, h2.keep (hga.block _ (heap_lt h2.1) (fun e => (row_ne h2 (h1.row 2 (by omega) c HXN.out)) (Option.some.inj e))) (hga.block _ (heap_lt h2.2.1) (fun e => HGX.out.1 (Option.some.inj e))), h4.trans (F' := fun g => g = k.rg 2 c) (Fr.of_grown hga (fun z hz => by injection hz with hz; exact hz.symm)) (fun g _ e => .inr ⟨c, HXN.out, e⟩)⟩)
                  have hcA := HUA.out.1
                  obtain ⟨_, _, _, _, c4⟩ := hcA.cells
                  have c4' : wa.cell? ⟨k.b, 4, none⟩ = some (.pointer (some ⟨lb, 0, none⟩)) := c4
                  have HST := Lib.hid (Bits.set_any lb lg n LVi (c : Int) true wa (hcA.lst _ rfl).1)
                  clear hra hga HAND hcA c4 c3 hlt2 hcl
                  go_wp2_with fail
                  refine HST.out.mono ?_
                  rintro e wb ⟨rfl, hrb, hgb⟩
                  have HN5 : Hid (UL B k n m lb lg LV f V cs bR gR X (i + 1) w wb) := Lib.hid (by
                    obtain ⟨h1, h2, h4⟩ := HUA.out
                    have h3 := HUU.out.2.2.1
                    refine ⟨_, h1.tell hrb hgb, h2.keep (hgb.block _ (heap_lt h2.1) (fun e => (row_ne h2 (h1.lst _ rfl).1) (Option.some.inj e))) (hgb.block _ (heap_lt h2.2.1) (fun e => HGX.out.2 (Option.some.inj e))), fun x hx => ?_, h4.trans (F' := fun g => g = lg) (Fr.of_grown hgb (fun z hz => by injection hz with hz; exact hz.symm)) (fun g _ e => .inl e)⟩
                    rw [setV_bit HXN.out, HCD.out, told_new HCH.out]
                    by_cases e : x = c
                    · rw [if_pos e, decide_eq_true e]; simp
                    · rw [if_neg e, decide_eq_false e, h3 x hx]; simp)
                  clear hrb hgb HST HUA HUU c4'
                  go_wp2_with fail
                  go_roundw
                  case rel => exact ⟨i + 1, by go_num, hlt, HN5⟩
                  case measure => simp [intOf]; omega
              · have e : M = i := by omega
                have HRES : Hid (SetP B k n m lb lg LV f V cs w (.returned (.tuple #[])) wr) := Lib.hid (by
                  obtain ⟨LV', h1, h2, h3, h4⟩ := HU.out
                  rw [← e, HMM.out, List.take_length] at h1 h3
                  exact ⟨X, LV', rfl, HSX.out, h1, h3, h4⟩)
                clear HU e
                go_wp2
                exact bodyPost_end (results_none rfl _ _ _) rfl HRES.out
      · have hd : decide (minusV Y (ofV n (natI cs)) ≠ Y) = true := decide_eq_true hch
        have HX0' : Hid (∃ y ∈ cs, goesB V cs y = true) := Lib.hid (by
          apply Classical.byContradiction
          intro hno
          refine hch (Nat.eq_of_testBit_eq fun t => ?_)
          rw [minusV_testBit, HOB.out]
          by_cases ht : t ∈ cs
          · have h1 : goesB V cs t = false := by
              cases e : goesB V cs t with
              | false => rfl
              | true => exact absurd ⟨t, ht, e⟩ hno
            rw [HY.out t (HCS.out t ht), h1]; rfl
          · rw [decide_eq_false ht]; simp)
        have HOR8 := Lib.hid (or_row bR gR n 0 bO gO n (ofV n (natI cs)) w7 HX7.out HO7.out ⟨row_ne HO7.out HX7.out, HG6.out.2⟩)
        rw [hd]
        clear hch hd hN1 HY HYB HNB
        go_wp2_with fail
        refine HOR8.out.mono ?_
        rintro e w8 ⟨rfl, hr8, hg8⟩
        obtain ⟨X0, hX0⟩ : ∃ X0, X0 = orV n 0 (ofV n (natI cs)) := ⟨_, rfl⟩
        rw [← hX0] at hr8
        have HX0 : Hid (∀ b, b < n → (X0.testBit b = true ↔ b ∈ cs ∧ ∃ y ∈ cs, goesB V cs y = true)) := Lib.hid fun b hb => by
          rw [hX0, orV_testBit, HOB.out, decide_eq_true hb]
          constructor
          · intro h
            simp at h
            exact ⟨h, HX0'.out⟩
          · rintro ⟨h, _⟩
            simp [h]
        have HB8 : Hid (Below w.heap.size w w8) := Lib.hid (Below.grown HB7.out hg8 HB7.out.size (fun z hz => by injection hz with hz; rw [← hz]; exact HR2.out.2.2))
        have HN8 : Hid (RowAt w8 bN gN n N1) := Lib.hid (by
          have h1 := HN7.out
          exact h1.keep (hg8.block _ (heap_lt h1.1) (fun e => (row_ne h1 HX7.out) (Option.some.inj e))) (hg8.block _ (heap_lt h1.2.1) (fun e => HN4.out.symm (Option.some.inj e))))
        have HX8 := Lib.hid hr8
        have HN8C := HX8
        clear hr8 hg8 hX0 HX0' HOR8 HB7 HN7 HX7 HO7 HOB
        have HNX8 := Lib.hid (next_at bN gN n N1 0 0 (by decide) w8 HN8.out (fun _ => (HT.out.below HB8.out).1))
        clear HN8C
        go_wp2_with fail
        refine HNX8.out.mono ?_
        rintro e w9 ⟨⟨r, rfl, hnp⟩, q, rfl⟩
        obtain ⟨w9, hw9⟩ : ∃ X, X = w8.drewN q := ⟨_, rfl⟩
        rw [← hw9]
        have hrb : -1 ≤ r ∧ r < (n : Int) := by rcases hnp with ⟨h, _⟩ | ⟨j, h, _, hj, _⟩ <;> omega
        have HI9 : Hid (SL w bR gR bN gN n V cs X0 0 r w9) := Lib.hid (by
          have hb : Below w8.heap.size w8 w9 := by rw [hw9]; exact below_drewN (Below.refl _ _) q
          exact ⟨X0, N1, fun _ => False, hnp, HX8.out.below hb, HN8.out.below hb, HB8.out.trans (hb.mono HB8.out.size), fun t h => h.elim, fun b _ => ⟨.inl, fun h => h.elim id (fun ⟨_, h, _⟩ => h.elim)⟩, fun t ht h => by
            have := HN1.out t ht
            rw [this, Bool.and_eq_true] at h
            exact ⟨h.1, by simpa using h.2⟩, fun t ht h1 h2 => .inl (by rw [HN1.out t ht, h2]; simpa using h1), fun t h => absurd h (Nat.not_lt_zero _)⟩)
        clear hw9 hnp HNX8 HX8 HN8 HB8 HN1
        go_wp2_with fail
        go_loopw [9] (fun s9 wr => ∃ (i : Nat) (r : Int), s9 = .int .i64 r ∧ ((-1 ≤ r ∧ r < (n : Int)) ∧ i ≤ n) ∧ Hid (SL w bR gR bN gN n V cs X0 i r wr)) (fun s9 _ => mN n (intOf s9))
        case atStart => exact ⟨0, r, rfl, ⟨hrb, Nat.zero_le _⟩, HI9⟩
        case round =>
          clear HI9 hrb
          obtain ⟨i, r, rfl, ⟨hrb, hin⟩, HI⟩ := hrel
          by_cases hr0 : 0 ≤ r
          · obtain ⟨Xr, Nr, done, hnp, hrX, hrN, hbw, hdo, hXb, hN1, hN2, hN3⟩ := HI.out
            obtain ⟨j, rfl, hij, hjn, hjb, hno⟩ : ∃ j : Nat, r = (j : Int) ∧ i ≤ j ∧ j < n ∧ Nr.testBit j = true ∧ ∀ x, i ≤ x → x < j → Nr.testBit x = false := by
              rcases hnp with ⟨h, _⟩ | ⟨j, h1, h2, h3, h4, h5⟩
              · omega
              · exact ⟨j, h1, h2, h3, h4, h5⟩
            have hcs2 := HC.out.below hbw
            obtain ⟨_, _, _, c3, _⟩ := hcs2.cells
            obtain ⟨g0, hp, hlt2, hcl⟩ := hcs2.way (a := 2) (by omega) hjn
            have HSET := Lib.hid (Bits.set_any bR gR n Xr (j : Int) true wr hrX)
            have HJ : Hid ((i ≤ j ∧ j < n ∧ Nr.testBit j = true ∧ ∀ x, i ≤ x → x < j → Nr.testBit x = false) ∧ RowAt wr bR gR n Xr ∧ RowAt wr bN gN n Nr ∧ Below w.heap.size w wr ∧ (∀ t, done t → t < n ∧ t ∉ cs ∧ goesB V cs t = true) ∧ (∀ b, b < n → (Xr.testBit b = true ↔ X0.testBit b = true ∨ ∃ t, done t ∧ (b = t ∨ (V 2 t).testBit b = true))) ∧ (∀ t, t < n → Nr.testBit t = true → goesB V cs t = true ∧ t ∉ cs) ∧ (∀ t, t < n → t ∉ cs → goesB V cs t = true → Nr.testBit t = true ∨ Xr.testBit t = true) ∧ ∀ t, t < i → t < n → t ∉ cs → goesB V cs t = true → Xr.testBit t = true) := Lib.hid ⟨⟨hij, hjn, hjb, hno⟩, hrX, hrN, hbw, hdo, hXb, hN1, hN2, hN3⟩
            have hjni : (j : Int) < (n : Int) := by omega
            rw [hp] at c3
            clear hnp hrX hrN hbw hdo hXb hN1 hN2 hN3 hij hjb hno hcs2 c3 hp hlt2 hcl HI
            go_wp2_with fail
            refine HSET.out.mono ?_
            rintro e wa ⟨rfl, hra, hga⟩
            have HBA : Hid (Below w.heap.size w wa) := Lib.hid (Below.grown HJ.out.2.2.2.1 hga HJ.out.2.2.2.1.size (fun z hz => by injection hz with hz; rw [← hz]; exact HR2.out.2.2))
            have HNA : Hid (RowAt wa bN gN n Nr) := Lib.hid (by
              have h1 := HJ.out.2.2.1
              exact h1.keep (hga.block _ (heap_lt h1.1) (fun e => (row_ne h1 HJ.out.2.1) (Option.some.inj e))) (hga.block _ (heap_lt h1.2.1) (fun e => HN4.out.symm (Option.some.inj e))))
            have hcs2 := HC.out.below HBA.out
            obtain ⟨_, _, _, c3, _⟩ := hcs2.cells
            obtain ⟨g0, hp, hlt2, hcl⟩ := hcs2.way (a := 2) (by omega) hjn
            rw [hp] at c3
            have hro := hcs2.row 2 (by omega) j hjn
            have HOR := Lib.hid (or_row bR gR n (setV n Xr (j : Int) true) (k.rb 2 j) (k.rg 2 j) n (V 2 j) wa hra hro ⟨row_ne hro hra, fun e => by have := heap_lt (HC.out.row 2 (by omega) j hjn).2.1; have := HR2.out.2.2; omega⟩)
            have HRA := Lib.hid hra
            clear hra hga hcs2 hro hp HSET
            go_wp2_with fail
            refine HOR.out.mono ?_
            rintro e wb ⟨rfl, hrb2, hgb⟩
            obtain ⟨Xb, hXb⟩ : ∃ Xb, Xb = orV n (setV n Xr (j : Int) true) (V 2 j) := ⟨_, rfl⟩
            rw [← hXb] at hrb2
            have HXB : Hid (∀ b, b < n → (Xb.testBit b = true ↔ Xr.testBit b = true ∨ b = j ∨ (V 2 j).testBit b = true)) := Lib.hid fun b hb => by
              rw [hXb, orV_testBit, setV_bit hjn, decide_eq_true hb, Bool.true_and, Bool.or_eq_true]
              by_cases e : b = j
              · rw [if_pos e]; simp [e]
              · rw [if_neg e]; simp [e]
            have HBB : Hid (Below w.heap.size w wb) := Lib.hid (Below.grown HBA.out hgb HBA.out.size (fun z hz => by injection hz with hz; rw [← hz]; exact HR2.out.2.2))
            have HNBB : Hid (RowAt wb bN gN n Nr) := Lib.hid (by
              have h1 := HNA.out
              exact h1.keep (hgb.block _ (heap_lt h1.1) (fun e => (row_ne h1 HRA.out) (Option.some.inj e))) (hgb.block _ (heap_lt h1.2.1) (fun e => HN4.out.symm (Option.some.inj e))))
            have HMN := Lib.hid (minus_row bN gN n Nr bR gR n Xb wb HNBB.out hrb2 ⟨row_ne hrb2 HNBB.out, HN4.out⟩)
            have HRB := Lib.hid hrb2
            clear hrb2 hgb hXb HOR HNA HBA HRA c3 hlt2 hcl
            go_wp2_with fail
            refine HMN.out.mono ?_
            rintro e wc ⟨rfl, hrc, hgc⟩
            obtain ⟨Nc, hNc⟩ : ∃ Nc, Nc = minusV Nr Xb := ⟨_, rfl⟩
            rw [← hNc] at hrc
            have HNC : Hid (∀ t, Nc.testBit t = (Nr.testBit t && !Xb.testBit t)) := Lib.hid fun t => by rw [hNc, minusV_testBit]
            have HBC : Hid (Below w.heap.size w wc) := Lib.hid (Below.grown HBB.out hgc HBB.out.size (fun z hz => by injection hz with hz; rw [← hz]; exact HG4.out))
            have HXC : Hid (RowAt wc bR gR n Xb) := Lib.hid (by
              have h1 := HRB.out
              exact h1.keep (hgc.block _ (heap_lt h1.1) (fun e => (row_ne h1 HNBB.out) (Option.some.inj e))) (hgc.block _ (heap_lt h1.2.1) (fun e => HN4.out (Option.some.inj e))))
            have HRC := Lib.hid hrc
            have HNXT := Lib.hid (next_at bN gN n Nc (j + 1) ((j : Int) + 1) (by omega) wc hrc (fun _ => (HT.out.below HBC.out).1))
            clear hrc hgc hNc HMN HRB HNBB HBB
            go_wp2_with fail
            refine HNXT.out.mono ?_
            rintro e wd ⟨⟨rd, rfl, hnp⟩, q, rfl⟩
            obtain ⟨wd, hwd⟩ : ∃ X, X = wc.drewN q := ⟨_, rfl⟩
            rw [← hwd]
            have hrd : -1 ≤ rd ∧ rd < (n : Int) := by rcases hnp with ⟨h, _⟩ | ⟨j, h, _, hj, _⟩ <;> omega
            have HME : Hid (mN n rd < mN n (j : Int)) := Lib.hid (by
              unfold mN
              rcases hnp with ⟨h, _⟩ | ⟨j6, h, h2, hj, _⟩
              · rw [if_pos (by omega), if_neg (by omega)]; omega
              · rw [if_neg (by omega), if_neg (by omega)]; omega)
            have HID : Hid (SL w bR gR bN gN n V cs X0 (j + 1) rd wd) := Lib.hid (by
              have hb : Below wc.heap.size wc wd := by rw [hwd]; exact below_drewN (Below.refl _ _) q
              obtain ⟨⟨hij, hjn', hjb, hno⟩, _, _, _, hdo, hXb, hN1, hN2, hN3⟩ := HJ.out
              have hjx := HXB.out
              refine ⟨Xb, Nc, fun t => done t ∨ t = j, hnp, HXC.out.below hb, HRC.out.below hb, HBC.out.trans (hb.mono HBC.out.size), fun t h => ?_, fun b hbn => ?_, fun t ht h => ?_, fun t ht h1 h2 => ?_, fun t ht ht2 h1 h2 => ?_⟩
              · rcases h with h | rfl
                · exact hdo t h
                · exact ⟨hjn', (hN1 t hjn' hjb).2, (hN1 t hjn' hjb).1⟩
              · rw [hjx b hbn, hXb b hbn]
                constructor
                · rintro ((h | ⟨t, h1, h2⟩) | h | h)
                  · exact .inl h
                  · exact .inr ⟨t, .inl h1, h2⟩
                  · exact .inr ⟨j, .inr rfl, .inl h⟩
                  · exact .inr ⟨j, .inr rfl, .inr h⟩
                · rintro (h | ⟨t, h1 | rfl, h2⟩)
                  · exact .inl (.inl h)
                  · exact .inl (.inr ⟨t, h1, h2⟩)
                  · exact .inr h2
              · rw [HNC.out, Bool.and_eq_true] at h
                exact hN1 t ht h.1
              · rw [HNC.out]
                cases hx : Xb.testBit t with
                | true => exact .inr rfl
                | false =>
                  rcases hN2 t ht h1 h2 with h | h
                  · exact .inl (by rw [h]; rfl)
                  · have := (hjx t ht).2 (.inl h)
                    rw [hx] at this
                    cases this
              · refine (hjx t ht2).2 ?_
                by_cases e : t = j
                · exact .inr (.inl e)
                · by_cases e2 : t < i
                  · exact .inl (hN3 t e2 ht2 h1 h2)
                  · rcases hN2 t ht2 h1 h2 with h | h
                    · rw [hno t (by omega) (by omega)] at h; cases h
                    · exact .inl h)
            clear hwd hnp HNXT HXC HRC HBC HJ HXB HNC
            go_wp2_with fail
            go_roundw
            case rel => exact ⟨j + 1, rd, rfl, ⟨hrd, by omega⟩, HID⟩
            case measure => exact HME.out
          · have HFIN : Hid (∃ X, SetX n V cs X ∧ RowAt wr bR gR n X ∧ Below w.heap.size w wr) := Lib.hid (by
              obtain ⟨Xr, Nr, done, hnp, hrX, hrN, hbw, hdo, hXb, hN1, hN2, hN3⟩ := HI.out
              refine ⟨Xr, ⟨done, hdo, fun b hb => by rw [hXb b hb, HX0.out b hb], fun t ht h1 h2 => ?_⟩, hrX, hbw⟩
              by_cases e : t < i
              · exact hN3 t e ht h1 h2
              · rcases hN2 t ht h1 h2 with h | h
                · rcases hnp with ⟨_, h3⟩ | ⟨j, h3, _⟩
                  · rw [h3 t (by omega) ht] at h; cases h
                  · omega
                · exact h)
            clear HI hrb hin
            obtain ⟨X, hSX, hrX, hbw⟩ := HFIN.out
            have HSX := Lib.hid hSX
            have HU0 : Hid (UL B k n m lb lg LV f V cs bR gR X 0 w wr) := Lib.hid ⟨LV, by
              have : cutV V X (cs.take 0) = V := by funext a x; unfold cutV; simp
              rw [this]
              exact HC.out.below hbw, hrX, fun x _ => by simp [toldB], Fr.of_below hbw⟩
            clear hSX hrX hbw HFIN
            go_wp2_with fail
            go_loopw [69] (fun s69 wr => ∃ i : Nat, s69 = .int .i64 (i : Int) ∧ i ≤ M ∧ Hid (UL B k n m lb lg LV f V cs bR gR X i w wr)) (fun s69 _ => M - (intOf s69).toNat)
            case atStart => exact ⟨0, rfl, Nat.zero_le _, HU0⟩
            case round =>
              clear HU0
              obtain ⟨i, rfl, hi, HU⟩ := hrel
              by_cases hlt : i < M
              · obtain ⟨g, o, rfl, hcx, hxn⟩ := HCU.out i hlt
                obtain ⟨LVi, hcsU, hrX, hLV, hfrU⟩ := HU.out
                have hx := hcx wr hfrU
                have hii : (i : Int) < (M : Int) := by omega
                obtain ⟨c, hcd⟩ : ∃ c, c = cs.getD i 0 := ⟨_, rfl⟩
                rw [← hcd] at hx hxn
                have HCD : Hid (cs.take (i + 1) = cs.take i ++ [c]) := Lib.hid (by
                  have hi2 : i < cs.length := by have := HMM.out; omega
                  rw [List.take_succ_eq_append_getElem hi2, hcd, List.getD_eq_getElem?_getD, List.getElem?_eq_getElem hi2]
                  rfl)
                have hci : (c : Int) < (n : Int) := by omega
                obtain ⟨_, _, _, c3, _⟩ := hcsU.cells
                obtain ⟨g0, hp, hlt2, hcl⟩ := hcsU.way (a := 2) (by omega) hxn
                have hro := hcsU.row 2 (by omega) c hxn
                have hgn : gR ≠ k.rg 2 c := fun e => by have := heap_lt (HC.out.row 2 (by omega) c hxn).2.1; have := HR2.out.2.2; omega
                have HAND := Lib.hid (and_row (k.rb 2 c) (k.rg 2 c) n (cutV V X (cs.take i) 2 c) bR gR n X wr hro hrX ⟨row_ne hrX hro, hgn⟩)
                have HUU : Hid (CS B k n wr f (cutV V X (cs.take i)) (some (lb, lg, LVi)) m ∧ RowAt wr bR gR n X ∧ (∀ x, x < n → LVi.testBit x = (LV.testBit x || toldB V X (cs.take i) x)) ∧ Fr (fun g => g = lg ∨ ∃ i, i < n ∧ g = k.rg 2 i) w wr) := Lib.hid ⟨hcsU, hrX, hLV, hfrU⟩
                have HGX : Hid (gR ≠ k.rg 2 c ∧ gR ≠ lg) := Lib.hid ⟨hgn, fun e => by have h9 : lg < w.heap.size := heap_lt (HC.out.lst _ rfl).1.2.1; have := HR2.out.2.2; omega⟩
                have HXN := Lib.hid hxn
                rw [hp] at c3
                clear hcsU hrX hLV hfrU hcx hcd hro hgn hp HU
                by_cases hch : cutV V X (cs.take i) 2 c &&& X = cutV V X (cs.take i) 2 c
                · have hd : decide (cutV V X (cs.take i) 2 c &&& X ≠ cutV V X (cs.take i) 2 c) = false := decide_eq_false (fun h => h hch)
                  have HCH := Lib.hid hch
                  unfold Turned at HAND
                  rw [hd] at HAND
                  clear hch hd
                  go_wp2_with fail
                  refine HAND.out.mono ?_
                  rintro e wa ⟨rfl, hra, hga⟩
                  have HN5 : Hid (UL B k n m lb lg LV f V cs bR gR X (i + 1) w wa) := Lib.hid (by
                    obtain ⟨h1, h2, h3, h4⟩ := HUU.out
                    have hc1 := h1.turn (a := 2) (by omega) HXN.out hra hga
                    rw [cutV_succ, ← HCD.out] at hc1
                    refine ⟨LVi, hc1, h2.keep (hga.block _ (heap_lt h2.1) (fun e => (row_ne h2 (h1.row 2 (by omega) c HXN.out)) (Option.some.inj e))) (hga.block _ (heap_lt h2.2.1) (fun e => HGX.out.1 (Option.some.inj e))), fun x hx => ?_, h4.trans (F' := fun g => g = k.rg 2 c) (Fr.of_grown hga (fun z hz => by injection hz with hz; exact hz.symm)) (fun g _ e => .inr ⟨c, HXN.out, e⟩)⟩
                    rw [h3 x hx, HCD.out, told_succ HCH.out])
                  clear hra hga HAND HUU
                  go_wp2_with fail
                  go_roundw
                  case rel => exact ⟨i + 1, by go_num, hlt, HN5⟩
                  case measure => simp [intOf]; omega
                · have hd : decide (cutV V X (cs.take i) 2 c &&& X ≠ cutV V X (cs.take i) 2 c) = true := decide_eq_true hch
                  have HCH := Lib.hid hch
                  unfold Turned at HAND
                  rw [hd] at HAND
                  clear hch hd
                  go_wp2_with fail
                  refine HAND.out.mono ?_
                  rintro e wa ⟨rfl, hra, hga⟩
                  have HUA : Hid (CS B k n wa f (cutV V X (cs.take (i + 1))) (some (lb, lg, LVi)) m ∧ RowAt wa bR gR n X ∧ Fr (fun g => g = lg ∨ ∃ i, i < n ∧ g = k.rg 2 i) w wa) := Lib.hid (by
                    obtain ⟨h1, h2, h3, h4⟩ := HUU.out
                    have hc1 := h1.turn (a := 2) (by omega) HXN.out hra hga
                    rw [cutV_succ, ← HCD.out] at hc1
                    exact ⟨hc1, h2.keep (hga.block _ (heap_lt h2.1) (fun e => (row_ne h2 (h1.row 2 (by omega) c HXN.out)) (Option.some.inj e))) (hga.block _ (heap_lt h2.2.1) (fun e => HGX.out.1 (Option.some.inj e))), h4.trans (F' := fun g => g = k.rg 2 c) (Fr.of_grown hga (fun z hz => by injection hz with hz; exact hz.symm)) (fun g _ e => .inr ⟨c, HXN.out, e⟩)⟩)
                  have hcA := HUA.out.1
                  obtain ⟨_, _, _, _, c4⟩ := hcA.cells
                  have c4' : wa.cell? ⟨k.b, 4, none⟩ = some (.pointer (some ⟨lb, 0, none⟩)) := c4
                  have HST := Lib.hid (Bits.set_any lb lg n LVi (c : Int) true wa (hcA.lst _ rfl).1)
                  clear hra hga HAND hcA c4 c3 hlt2 hcl
                  go_wp2_with fail
                  refine HST.out.mono ?_
                  rintro e wb ⟨rfl, hrb, hgb⟩
                  have HN5 : Hid (UL B k n m lb lg LV f V cs bR gR X (i + 1) w wb) := Lib.hid (by
                    obtain ⟨h1, h2, h4⟩ := HUA.out
                    have h3 := HUU.out.2.2.1
                    refine ⟨_, h1.tell hrb hgb, h2.keep (hgb.block _ (heap_lt h2.1) (fun e => (row_ne h2 (h1.lst _ rfl).1) (Option.some.inj e))) (hgb.block _ (heap_lt h2.2.1) (fun e => HGX.out.2 (Option.some.inj e))), fun x hx => ?_, h4.trans (F' := fun g => g = lg) (Fr.of_grown hgb (fun z hz => by injection hz with hz; exact hz.symm)) (fun g _ e => .inl e)⟩
                    rw [setV_bit HXN.out, HCD.out, told_new HCH.out]
                    by_cases e : x = c
                    · rw [if_pos e, decide_eq_true e]; simp
                    · rw [if_neg e, decide_eq_false e, h3 x hx]; simp)
                  clear hrb hgb HST HUA HUU c4'
                  go_wp2_with fail
                  go_roundw
                  case rel => exact ⟨i + 1, by go_num, hlt, HN5⟩
                  case measure => simp [intOf]; omega
              · have e : M = i := by omega
                have HRES : Hid (SetP B k n m lb lg LV f V cs w (.returned (.tuple #[])) wr) := Lib.hid (by
                  obtain ⟨LV', h1, h2, h3, h4⟩ := HU.out
                  rw [← e, HMM.out, List.take_length] at h1 h3
                  exact ⟨X, LV', rfl, HSX.out, h1, h3, h4⟩)
                clear HU e
                go_wp2
                exact bodyPost_end (results_none rfl _ _ _) rfl HRES.out
end Go.Proofs.YtakgepdlninnhaaDoor.Cs
namespace Go.Proofs.YtakgepdlninnhaaDoor.Cs
open Go.ChangeShapes Go.WideShapes Go.ChangeAt Go.RowKit Base F Bits Df
variable {B n m lb lg LV : Nat} {k : CB} {w W W0 W' : World} {f : Int × Int → Int} {V : Nat → Nat → Nat} {la : La}
/-- Rows to which a gain is put, where v was not. -/
def gainV (n : Nat) (V : Nat → Nat → Nat) (v G : Nat) (cs : List Nat) : Nat → Nat → Nat := fun a x => if a = 2 ∧ x ∈ cs ∧ (V 2 x).testBit v = false then orV n (V 2 x) G else V a x
theorem gainV_skip {n v G c : Nat} {cs : List Nat} (h : (gainV n V v G cs 2 c).testBit v = true) : gainV n V v G (cs ++ [c]) = gainV n V v G cs := by
  funext a x
  unfold gainV at h ⊢
  by_cases hx : x ∈ cs
  · have : x ∈ cs ++ [c] := by simp [hx]
    simp [hx, this]
  · by_cases e : x = c
    · subst e
      rw [if_neg (fun h2 => hx h2.2.1)] at h
      rw [if_neg (fun h2 => by rw [h] at h2; cases h2.2.2), if_neg (fun h2 => hx h2.2.1)]
    · have : x ∉ cs ++ [c] := by simp [hx, e]
      simp [hx, this]
theorem gainV_succ {n v G c : Nat} {cs : List Nat} (h : (gainV n V v G cs 2 c).testBit v = false) (hv : v < n) (hG : G.testBit v = true) : upV (gainV n V v G cs) 2 c (orV n (gainV n V v G cs 2 c) G) = gainV n V v G (cs ++ [c]) := by
  have hc : gainV n V v G cs 2 c = V 2 c ∧ (V 2 c).testBit v = false := by
    unfold gainV at h ⊢
    by_cases hx : c ∈ cs ∧ (V 2 c).testBit v = false
    · rw [if_pos ⟨rfl, hx⟩, orV_testBit, decide_eq_true hv, hG] at h
      simp at h
    · rw [if_neg (fun h2 => hx h2.2)] at h ⊢
      exact ⟨rfl, h⟩
  funext a x
  unfold upV
  by_cases h2 : a = 2 ∧ x = c
  · obtain ⟨rfl, rfl⟩ := h2
    rw [if_pos ⟨rfl, rfl⟩, hc.1]
    unfold gainV
    rw [if_pos ⟨rfl, by simp, hc.2⟩]
  · rw [if_neg h2]
    unfold gainV
    by_cases h3 : a = 2 ∧ x ∈ cs ∧ (V 2 x).testBit v = false
    · rw [if_pos h3, if_pos ⟨h3.1, by simp [h3.2.1], h3.2.2⟩]
    · rw [if_neg h3, if_neg (fun h4 => ?_)]
      rcases List.mem_append.1 h4.2.1 with h5 | h5
      · exact h3 ⟨h4.1, h5, h4.2.2⟩
      · rw [List.mem_singleton] at h5
        exact h2 ⟨h4.1, h5⟩
def gotB (V : Nat → Nat → Nat) (v : Nat) (cs : List Nat) (x : Nat) : Bool := decide (x ∈ cs) && !(V 2 x).testBit v
/-- The arc is among those that go, and those that come. -/
def arcV (n : Nat) (V : Nat → Nat → Nat) (u v : Nat) (on : Bool) : Nat → Nat → Nat := upV (upV V 0 u (setV n (V 0 u) (v : Int) on)) 1 v (setV n (V 1 v) (u : Int) on)
/-- What link leaves. -/
def LinkP (B : Nat) (k : CB) (n m lb lg LV : Nat) (f : Int × Int → Int) (V : Nat → Nat → Nat) (u v : Nat) (W : World) (e : Ending) (W' : World) : Prop :=
  ∃ cs G LV', e = .returned (.tuple #[]) ∧ CS B k n W' f (gainV n (arcV n V u v true) v G cs) (some (lb, lg, LV')) m ∧ (∀ x, x < n → LV'.testBit x = (LV.testBit x || gotB V v cs x)) ∧ (∀ x, x ∈ cs ↔ (x < n ∧ (V 2 u).testBit v = false ∧ (x = u ∨ (V 2 x).testBit u = true))) ∧ (∀ b, b < n → G.testBit b = (decide (b = v) || (V 2 v).testBit b)) ∧ Fr (fun g => g = lg ∨ ∃ a i, a < 3 ∧ i < n ∧ g = k.rg a i) W W'
/-- Where its loop is. -/
def KL (B : Nat) (k : CB) (n m lb lg LV : Nat) (f : Int × Int → Int) (V : Nat → Nat → Nat) (v G bG gG : Nat) (cs : List Nat) (w wr : World) : Prop :=
  ∃ LV', CS B k n wr f (gainV n V v G cs) (some (lb, lg, LV')) m ∧ RowAt wr bG gG n G ∧ (∀ x, x < n → LV'.testBit x = (LV.testBit x || gotB V v cs x)) ∧ Fr (fun g => g = lg ∨ ∃ a i, a < 3 ∧ i < n ∧ g = k.rg a i) w wr
theorem arcV_two (n : Nat) (V : Nat → Nat → Nat) (u v : Nat) (on : Bool) (x : Nat) : arcV n V u v on 2 x = V 2 x := by
  unfold arcV
  rw [upV_ne _ _ (by omega), upV_ne _ _ (by omega)]
theorem got_skip {n v G c : Nat} {cs : List Nat} (h : (gainV n V v G cs 2 c).testBit v = true) (x : Nat) : gotB V v (cs ++ [c]) x = gotB V v cs x := by
  unfold gotB
  by_cases hx : x ∈ cs
  · rw [decide_eq_true hx, decide_eq_true (show x ∈ cs ++ [c] by simp [hx])]
  · rw [decide_eq_false hx]
    by_cases e : x = c
    · subst e
      unfold gainV at h
      rw [if_neg (fun h2 => hx h2.2.1)] at h
      rw [h]; simp
    · rw [decide_eq_false (show ¬ (x ∈ cs ++ [c]) by simp [hx, e])]
theorem got_new {n v G c : Nat} {cs : List Nat} (h : (gainV n V v G cs 2 c).testBit v = false) (x : Nat) : gotB V v (cs ++ [c]) x = (decide (x = c) || gotB V v cs x) := by
  have hc : (V 2 c).testBit v = false := by
    unfold gainV at h
    by_cases hx : c ∈ cs ∧ (V 2 c).testBit v = false
    · exact hx.2
    · rwa [if_neg (fun h2 => hx h2.2)] at h
  unfold gotB
  by_cases e : x = c
  · subst e
    rw [decide_eq_true rfl, decide_eq_true (show x ∈ cs ++ [x] by simp), hc]
    rfl
  · have : decide (x ∈ cs ++ [c]) = decide (x ∈ cs) := by rw [decide_eq_decide]; simp [e]
    rw [this, decide_eq_false e, Bool.false_or]
theorem TabW.fr {F : Nat → Prop} (h : TabW w) (hf : Fr F w W') (hF : ¬ F 0) : TabW W' := by
  refine ⟨fun j hj => ?_, Nat.lt_of_lt_of_le h.2 hf.size⟩
  rw [← h.1 j hj]
  simp only [World.cell?, hf.block h.2 hF]
set_option maxRecDepth 100000 in
set_option maxHeartbeats 8000000 in
theorem link_any (h : CS B k n w f V (some (lb, lg, LV)) m) (hT : TabW w) (hTB : 0 < B) {u v : Nat} (hu : u < n) (hv : v < n) :
    Calls Tryd.prog 30 #[.pointer (some ⟨k.b, 0, none⟩), .int .i64 (u : Int), .int .i64 (v : Int)] w (LinkP B k n m lb lg LV f V u v w) := by
  have hn4 : (n : Int) ≤ 4096 := by have := h.hn; omega
  have hui : (u : Int) < (n : Int) := by omega
  have hvi : (v : Int) < (n : Int) := by omega
  obtain ⟨_, c1, _, _, _⟩ := h.cells
  obtain ⟨g0, hp, hlt, hcl⟩ := h.way (a := 0) (by omega) hu
  have HS1 := Lib.hid (Bits.set_any (k.rb 0 u) (k.rg 0 u) n (V 0 u) (v : Int) true w (h.row 0 (by omega) u hu))
  have HC := Lib.hid h
  have HT := Lib.hid hT
  have HTB := Lib.hid hTB
  have HU := Lib.hid hu
  have HV := Lib.hid hv
  rw [hp] at c1
  clear h hT hTB hp hu hv
  go_enter Tryd.func30, Tryd.ntmps30
  go_wp2_with fail
  refine HS1.out.mono ?_
  rintro e w1 ⟨rfl, hr1, hg1⟩
  have h1 := HC.out.turn (a := 0) (by omega) HU.out hr1 hg1
  have HF1 : Hid (Fr (fun g => g = lg ∨ ∃ a i, a < 3 ∧ i < n ∧ g = k.rg a i) w w1) := Lib.hid (Fr.of_grown hg1 (fun z hz => by injection hz with hz; exact .inr ⟨0, u, by omega, HU.out, hz.symm⟩))
  obtain ⟨_, _, c2, _, _⟩ := h1.cells
  obtain ⟨g1, hp, hlt, hcl⟩ := h1.way (a := 1) (by omega) HV.out
  have hr2 := h1.row 1 (by omega) v HV.out
  rw [upV_ne _ _ (by omega)] at hr2
  have HS2 := Lib.hid (Bits.set_any (k.rb 1 v) (k.rg 1 v) n (V 1 v) (u : Int) true w1 hr2)
  have HC1 := Lib.hid h1
  rw [hp] at c2
  clear hr1 hg1 h1 hp hr2 HS1 c1
  go_wp2_with fail
  refine HS2.out.mono ?_
  rintro e w2 ⟨rfl, hr2, hg2⟩
  have h2 := HC1.out.turn (a := 1) (by omega) HV.out hr2 hg2
  have HC2 : Hid (CS B k n w2 f (arcV n V u v true) (some (lb, lg, LV)) m) := Lib.hid h2
  have HF2 : Hid (Fr (fun g => g = lg ∨ ∃ a i, a < 3 ∧ i < n ∧ g = k.rg a i) w w2) := Lib.hid (HF1.out.trans (F' := fun g => g = k.rg 1 v) (Fr.of_grown hg2 (fun z hz => by injection hz with hz; exact hz.symm)) (fun g _ e => .inr ⟨1, v, by omega, HV.out, e⟩))
  obtain ⟨_, _, _, c3, _⟩ := HC2.out.cells
  obtain ⟨g2, hp, hlt, hcl⟩ := HC2.out.way (a := 2) (by omega) HU.out
  have hru := HC2.out.row 2 (by omega) u HU.out
  rw [arcV_two] at hru
  have HHAS := Lib.hid (has_any (k.rb 2 u) (k.rg 2 u) n (V 2 u) (v : Int) w2 hru)
  have hvb : hasI n (V 2 u) (v : Int) = (V 2 u).testBit v := by unfold hasI; rw [decide_eq_true ⟨by omega, hvi⟩, Int.toNat_natCast, Bool.true_and]
  rw [hvb] at HHAS
  rw [hp] at c3
  clear hr2 hg2 h2 hp hru HS2 c2 HC1 HF1 hvb
  cases hb : (V 2 u).testBit v with
  | true =>
    rw [hb] at HHAS
    go_wp2_with fail
    refine HHAS.out.mono ?_
    rintro e w3 ⟨rfl, rfl⟩
    have HR : Hid (LinkP B k n m lb lg LV f V u v w (.returned (.tuple #[])) w2) := Lib.hid ⟨[], setV n (V 2 v) (v : Int) true, LV, rfl, by
      have : gainV n (arcV n V u v true) v (setV n (V 2 v) (v : Int) true) [] = arcV n V u v true := by funext a x; unfold gainV; simp
      rw [this]; exact HC2.out, fun x _ => by simp [gotB], fun x => by simp [hb], fun b _ => by
        rw [setV_bit HV.out]
        by_cases e : b = v
        · rw [if_pos e, decide_eq_true e]; rfl
        · rw [if_neg e, decide_eq_false e]; rfl, HF2.out⟩
    clear HHAS
    go_wp2
    exact bodyPost_ret (results_none rfl _ _ _) rfl HR.out
  | false =>
    rw [hb] at HHAS
    go_wp2_with fail
    refine HHAS.out.mono ?_
    rintro e w3 ⟨rfl, rfl⟩
    have HGA := Lib.hid (behind_any HC2.out HV.out)
    clear HHAS c3 hlt hcl
    go_wp2_with fail
    refine HGA.out.mono ?_
    rintro e w4 ⟨bG, gG, G, rfl, hrG, hG, hb4, hbG, hgG⟩
    have HC4 := Lib.hid (HC2.out.below hb4)
    have HG4 : Hid (RowAt w4 bG gG n G ∧ w2.heap.size ≤ bG ∧ w2.heap.size ≤ gG ∧ Below w2.heap.size w2 w4) := Lib.hid ⟨hrG, hbG, hgG, hb4⟩
    have HGB : Hid (∀ b, b < n → G.testBit b = (decide (b = v) || (V 2 v).testBit b)) := Lib.hid fun b hb => by rw [hG b hb, arcV_two]
    have HAA := Lib.hid (ahead_any HC4.out HU.out)
    clear hrG hG hb4 hbG hgG HGA
    go_wp2_with fail
    refine HAA.out.mono ?_
    rintro e w5 ⟨bA, gA, A, rfl, hrA, hA, hb5, _, _⟩
    have HC5 := Lib.hid (HC4.out.below hb5)
    have HG5 := Lib.hid (HG4.out.1.below hb5)
    have HAB : Hid (∀ x, x < n → A.testBit x = (decide (x = u) || (V 2 x).testBit u)) := Lib.hid fun x hx => by
      rw [hA x hx]
      show (decide (x = u) || (arcV n V u v true 2 x).testBit u) = _
      rw [arcV_two]
    have HF5 : Hid (Fr (fun g => g = lg ∨ ∃ a i, a < 3 ∧ i < n ∧ g = k.rg a i) w w5) := Lib.hid ((HF2.out.trans (F' := fun _ => False) (Fr.of_below HG4.out.2.2.2) (fun g _ e => e.elim)).trans (F' := fun _ => False) (Fr.of_below hb5) (fun g _ e => e.elim))
    have ht5 : TabW w5 := HT.out.fr HF5.out (fun e => by
      have hB := HTB.out
      rcases e with e | ⟨a, i, ha, hi, e⟩
      · have h9 : B ≤ lg := (HC.out.lst _ rfl).2.1
        omega
      · have := HC.out.ge.2.2 a ha i hi
        omega)
    have HLI := Lib.hid (rowList_any bA gA n A w5 hrA ht5.1 ht5.2)
    clear hrA hA hb5 ht5 HAA
    go_wp2_with fail
    refine HLI.out.mono ?_
    rintro e w6 ⟨⟨lv, rfl, hown⟩, hb6⟩
    obtain ⟨cs, hcs⟩ : ∃ cs, cs = placesTo A n := ⟨_, rfl⟩
    have hown2 : Lst.OwnI w5.heap.size w6 lv (natI cs) := by rw [hcs]; exact hown
    have HMEM : Hid (∀ x, x ∈ cs ↔ (x < n ∧ (x = u ∨ (V 2 x).testBit u = true))) := Lib.hid fun x => by
      rw [hcs]
      unfold placesTo
      rw [List.mem_filter, List.mem_range]
      constructor
      · rintro ⟨h1, h2⟩
        rw [HAB.out x h1, Bool.or_eq_true, decide_eq_true_eq] at h2
        exact ⟨h1, h2⟩
      · rintro ⟨h1, h2⟩
        refine ⟨h1, ?_⟩
        rw [HAB.out x h1, Bool.or_eq_true, decide_eq_true_eq]
        exact h2
    have hcl2 : cs.length ≤ 4096 := by
      rw [hcs]
      have := List.length_filter_le (fun x => A.testBit x) (List.range n)
      rw [List.length_range] at this
      have h3 := HC.out.hn
      unfold placesTo
      omega
    obtain ⟨pc, cc, hlv, hcell⟩ := own_cell hown2 (by omega)
    subst hlv
    have HC6 := Lib.hid (HC5.out.below hb6)
    have HCU : Hid (∀ i, i < cs.length → ∃ g o, pc = some ⟨g, o, none⟩ ∧ (∀ W' : World, Fr (fun g => g = lg ∨ ∃ a i, a < 3 ∧ i < n ∧ g = k.rg a i) w6 W' → W'.cell? ⟨g, o + i, none⟩ = some (.int .i64 ((cs.getD i 0 : Nat) : Int))) ∧ cs.getD i 0 < n) := Lib.hid fun i hi => by
      obtain ⟨g, o, h1, h2⟩ := hcell i hi
      have h4 : cs.getD i 0 < n := by
        have : cs.getD i 0 ∈ cs := by rw [List.getD_eq_getElem?_getD, List.getElem?_eq_getElem hi]; exact List.getElem_mem hi
        exact ((HMEM.out _).1 this).1
      refine ⟨g, o, h1, fun W' hW => h2 W' (fun g' hg => hW.block (World.ownsRow.lt hown2 g' hg).2 (fun hF => ?_)), h4⟩
      rcases hF with e | ⟨a, x, ha, hx, e⟩
      · have := own_ne hown2 (HC6.out.lst _ rfl).1.2.1 (by decide)
        rw [hg, e] at this
        exact this rfl
      · have := own_ne hown2 (HC6.out.row a ha x hx).2.1 (by decide)
        rw [hg, e] at this
        exact this rfl
    have HG6 : Hid (RowAt w6 bG gG n G ∧ gG ≠ lg ∧ ∀ a, a < 3 → ∀ i, i < n → gG ≠ k.rg a i) := Lib.hid ⟨HG5.out.below hb6, fun e => by
      have h9 : lg < w2.heap.size := heap_lt (HC2.out.lst _ rfl).1.2.1
      have := HG4.out.2.2.1
      omega, fun a ha i hi e => by
      have := heap_lt (HC2.out.row a ha i hi).2.1
      have := HG4.out.2.2.1
      omega⟩
    have HF6 : Hid (Fr (fun g => g = lg ∨ ∃ a i, a < 3 ∧ i < n ∧ g = k.rg a i) w w6) := Lib.hid (HF5.out.trans (F' := fun _ => False) (Fr.of_below hb6) (fun g _ e => e.elim))
    have HGV : Hid (G.testBit v = true) := Lib.hid (by rw [HGB.out v HV.out]; simp)
    have HBF := Lib.hid hb
    obtain ⟨M, hM⟩ : ∃ M, M = cs.length := ⟨_, rfl⟩
    have HMM := Lib.hid hM
    have hMi : (M : Int) ≤ 4096 := by omega
    rw [← hM] at HCU ⊢
    have HK0 : Hid (KL B k n m lb lg LV f (arcV n V u v true) v G bG gG (cs.take 0) w6 w6) := Lib.hid ⟨LV, by
      have : gainV n (arcV n V u v true) v G (cs.take 0) = arcV n V u v true := by funext a x; unfold gainV; simp
      rw [this]; exact HC6.out, HG6.out.1, fun x _ => by simp [gotB], Fr.refl _ _⟩
    clear hown hown2 hcs hcl2 hcell hb6 hM hb HLI HC2 HC4 HC5 HG4 HG5 HAB HF5 HF2
    go_wp2_with fail
    go_loopw [44] (fun s44 wr => ∃ i : Nat, s44 = .int .i64 (i : Int) ∧ i ≤ M ∧ Hid (KL B k n m lb lg LV f (arcV n V u v true) v G bG gG (cs.take i) w6 wr)) (fun s44 _ => M - (intOf s44).toNat)
    case atStart => exact ⟨0, rfl, Nat.zero_le _, HK0⟩
    case round =>
      clear HK0
      obtain ⟨i, rfl, hi, HK⟩ := hrel
      by_cases hlt : i < M
      · obtain ⟨g, o, rfl, hcx, hxn⟩ := HCU.out i hlt
        obtain ⟨LVi, hcsU, hrX, hLV, hfrU⟩ := HK.out
        have hx := hcx wr hfrU
        have hii : (i : Int) < (M : Int) := by omega
        obtain ⟨c, hcd⟩ : ∃ c, c = cs.getD i 0 := ⟨_, rfl⟩
        rw [← hcd] at hx hxn
        have HCD : Hid (cs.take (i + 1) = cs.take i ++ [c]) := Lib.hid (by
          have hi2 : i < cs.length := by have := HMM.out; omega
          rw [List.take_succ_eq_append_getElem hi2, hcd, List.getD_eq_getElem?_getD, List.getElem?_eq_getElem hi2]
          rfl)
        have hci : (c : Int) < (n : Int) := by omega
        obtain ⟨_, _, _, c3, _⟩ := hcsU.cells
        obtain ⟨g0, hp, hlt2, hcl⟩ := hcsU.way (a := 2) (by omega) hxn
        have hro := hcsU.row 2 (by omega) c hxn
        obtain ⟨Z, hZ⟩ : ∃ Z, Z = gainV n (arcV n V u v true) v G (cs.take i) 2 c := ⟨_, rfl⟩
        have HZE := Lib.hid hZ
        rw [← hZ] at hro
        have HHA := Lib.hid (has_any (k.rb 2 c) (k.rg 2 c) n Z (v : Int) wr hro)
        have hvb : hasI n Z (v : Int) = Z.testBit v := by unfold hasI; rw [decide_eq_true ⟨by omega, hvi⟩, Int.toNat_natCast, Bool.true_and]
        rw [hvb] at HHA
        have HOR := Lib.hid (or_row (k.rb 2 c) (k.rg 2 c) n Z bG gG n G wr hro hrX ⟨row_ne hrX hro, HG6.out.2.2 2 (by omega) c hxn⟩)
        have HKK : Hid (CS B k n wr f (gainV n (arcV n V u v true) v G (cs.take i)) (some (lb, lg, LVi)) m ∧ RowAt wr bG gG n G ∧ (∀ x, x < n → LVi.testBit x = (LV.testBit x || gotB (arcV n V u v true) v (cs.take i) x)) ∧ Fr (fun g => g = lg ∨ ∃ a i, a < 3 ∧ i < n ∧ g = k.rg a i) w6 wr) := Lib.hid ⟨hcsU, hrX, hLV, hfrU⟩
        have HXN := Lib.hid hxn
        rw [hp] at c3
        clear hcsU hrX hLV hfrU hcx hcd hro hp hZ hvb HK
        cases hzb : Z.testBit v with
        | true =>
          rw [hzb] at HHA
          have HN5 : Hid (KL B k n m lb lg LV f (arcV n V u v true) v G bG gG (cs.take (i + 1)) w6 wr) := Lib.hid (by
            obtain ⟨h1, h2, h3, h4⟩ := HKK.out
            have hz2 := hzb
            rw [HZE.out] at hz2
            refine ⟨LVi, ?_, h2, fun x hx => ?_, h4⟩
            · rw [HCD.out, gainV_skip hz2]; exact h1
            · rw [h3 x hx, HCD.out, got_skip hz2])
          clear hzb HOR HKK
          go_wp2_with fail
          refine HHA.out.mono ?_
          rintro e wa ⟨rfl, rfl⟩
          clear HHA
          go_wp2_with fail
          go_roundw
          case rel => exact ⟨i + 1, by go_num, hlt, HN5⟩
          case measure => simp [intOf]; omega
        | false =>
          rw [hzb] at HHA
          have HZB := Lib.hid hzb
          clear hzb
          go_wp2_with fail
          refine HHA.out.mono ?_
          rintro e wa ⟨rfl, rfl⟩
          clear HHA
          go_wp2_with fail
          refine HOR.out.mono ?_
          rintro e wb ⟨rfl, hrb, hgb⟩
          have HUA : Hid (CS B k n wb f (gainV n (arcV n V u v true) v G (cs.take (i + 1))) (some (lb, lg, LVi)) m ∧ RowAt wb bG gG n G ∧ Fr (fun g => g = lg ∨ ∃ a i, a < 3 ∧ i < n ∧ g = k.rg a i) w6 wb) := Lib.hid (by
            obtain ⟨h1, h2, h3, h4⟩ := HKK.out
            have hz2 := HZB.out
            rw [HZE.out] at hz2 hrb
            have hc1 := h1.turn (a := 2) (by omega) HXN.out hrb hgb
            rw [gainV_succ hz2 HV.out HGV.out, ← HCD.out] at hc1
            exact ⟨hc1, h2.keep (hgb.block _ (heap_lt h2.1) (fun e => (row_ne h2 (h1.row 2 (by omega) c HXN.out)) (Option.some.inj e))) (hgb.block _ (heap_lt h2.2.1) (fun e => HG6.out.2.2 2 (by omega) c HXN.out (Option.some.inj e))), h4.trans (F' := fun g => g = k.rg 2 c) (Fr.of_grown hgb (fun z hz => by injection hz with hz; exact hz.symm)) (fun g _ e => .inr ⟨2, c, by omega, HXN.out, e⟩)⟩)
          have hcA := HUA.out.1
          obtain ⟨_, _, _, _, c4⟩ := hcA.cells
          have c4' : wb.cell? ⟨k.b, 4, none⟩ = some (.pointer (some ⟨lb, 0, none⟩)) := c4
          have HST := Lib.hid (Bits.set_any lb lg n LVi (c : Int) true wb (hcA.lst _ rfl).1)
          clear hrb hgb HOR hcA c4 c3 hlt2 hcl
          go_wp2_with fail
          refine HST.out.mono ?_
          rintro e wc ⟨rfl, hrc, hgc⟩
          have HN5 : Hid (KL B k n m lb lg LV f (arcV n V u v true) v G bG gG (cs.take (i + 1)) w6 wc) := Lib.hid (by
            obtain ⟨h1, h2, h4⟩ := HUA.out
            have h3 := HKK.out.2.2.1
            have hz2 := HZB.out
            rw [HZE.out] at hz2
            refine ⟨_, h1.tell hrc hgc, h2.keep (hgc.block _ (heap_lt h2.1) (fun e => (row_ne h2 (h1.lst _ rfl).1) (Option.some.inj e))) (hgc.block _ (heap_lt h2.2.1) (fun e => HG6.out.2.1 (Option.some.inj e))), fun x hx => ?_, h4.trans (F' := fun g => g = lg) (Fr.of_grown hgc (fun z hz => by injection hz with hz; exact hz.symm)) (fun g _ e => .inl e)⟩
            rw [setV_bit HXN.out, HCD.out, got_new hz2]
            by_cases e : x = c
            · rw [if_pos e, decide_eq_true e]; simp
            · rw [if_neg e, decide_eq_false e, h3 x hx]; simp)
          clear hrc hgc HST HUA HKK c4'
          go_wp2_with fail
          go_roundw
          case rel => exact ⟨i + 1, by go_num, hlt, HN5⟩
          case measure => simp [intOf]; omega
      · have e : M = i := by omega
        have HRES : Hid (LinkP B k n m lb lg LV f V u v w (.returned (.tuple #[])) wr) := Lib.hid (by
          obtain ⟨LV', h1, h2, h3, h4⟩ := HK.out
          rw [← e, HMM.out, List.take_length] at h1 h3
          refine ⟨cs, G, LV', rfl, h1, fun x hx => ?_, fun x => ?_, HGB.out, HF6.out.trans h4 (fun _ _ e => e)⟩
          · rw [h3 x hx]
            unfold gotB
            rw [arcV_two]
          · rw [HMEM.out x]
            have hbf := HBF.out
            exact ⟨fun ⟨a, b⟩ => ⟨a, hbf, b⟩, fun ⟨a, _, b⟩ => ⟨a, b⟩⟩)
        clear HK e
        go_wp2
        exact bodyPost_end (results_none rfl _ _ _) rfl HRES.out
end Go.Proofs.YtakgepdlninnhaaDoor.Cs
namespace Go.Proofs.YtakgepdlninnhaaDoor.Cs
open Go.ChangeShapes Go.WideShapes Go.ChangeAt Go.RowKit Base F Bits Df
variable {B n m : Nat} {k : CB} {w W W0 W' : World} {f : Int × Int → Int} {V : Nat → Nat → Nat} {la : La}
set_option maxRecDepth 100000 in
theorem add_bad {pv : Value} (h : ClV w pv n) (u v : Int) (hb : ¬ ((0 ≤ u ∧ u < (n : Int)) ∧ (0 ≤ v ∧ v < (n : Int)))) : Calls Tryd.prog 10 #[pv, .int .i64 u, .int .i64 v] w (HeldP (.int .i64 1) w) := by
  have HN := Lib.hid (isNode_any h u)
  have HC := Lib.hid h
  by_cases hu : 0 ≤ u ∧ u < (n : Int)
  · have hv : ¬ (0 ≤ v ∧ v < (n : Int)) := fun e => hb ⟨hu, e⟩
    rw [decide_eq_true hu] at HN
    clear h hb hu
    go_enter Tryd.func10, Tryd.ntmps10
    go_wp2_with fail
    refine HN.out.mono ?_
    rintro e w1 ⟨rfl, hb⟩
    have HB := Lib.hid hb
    have HN2 := Lib.hid (isNode_any (HC.out.below hb) v)
    rw [decide_eq_false hv] at HN2
    clear hb HN hv
    go_wp2_with fail
    refine HN2.out.mono ?_
    rintro e w2 ⟨rfl, hb⟩
    have HB2 := Lib.hid (HB.out.trans (hb.mono HB.out.size))
    clear hb HN2 HB
    go_wp2
    go_ret
    exact ⟨rfl, HB2.out⟩
  · rw [decide_eq_false hu] at HN
    clear h hb hu
    go_enter Tryd.func10, Tryd.ntmps10
    go_wp2_with fail
    refine HN.out.mono ?_
    rintro e w1 ⟨rfl, hb⟩
    have HB := Lib.hid hb
    clear hb HN
    go_wp2
    go_ret
    exact ⟨rfl, HB.out⟩
/-- A closure's own blocks that change. -/
def CFr (k : CB) (n : Nat) (g : Nat) : Prop := g = k.b ∨ g = k.mb ∨ ∃ a i, a < 3 ∧ i < n ∧ g = k.rg a i
/-- What Add makes of the rows. -/
def AddV (n : Nat) (V : Nat → Nat → Nat) (c : Int) (u v : Nat) (V' : Nat → Nat → Nat) (LV' : Nat) : Prop :=
  (0 < c ∧ V' = V ∧ LV' = 0) ∨ (c = 0 ∧ ∃ cs G, V' = gainV n (arcV n V u v true) v G cs ∧ (∀ x, x < n → LV'.testBit x = gotB V v cs x) ∧ (∀ x, x ∈ cs ↔ (x < n ∧ (V 2 u).testBit v = false ∧ (x = u ∨ (V 2 x).testBit u = true))) ∧ ∀ b, b < n → G.testBit b = (decide (b = v) || (V 2 v).testBit b))
def AddP (B : Nat) (k : CB) (n m : Nat) (f : Int × Int → Int) (V : Nat → Nat → Nat) (u v : Nat) (W : World) (e : Ending) (W' : World) : Prop :=
  ∃ m' V' lb lg LV', e = .returned (.int .i64 0) ∧ m' ≤ m + 1 ∧ CS B k n W' (setC f ((u : Int), (v : Int)) (f ((u : Int), (v : Int)) + 1)) V' (some (lb, lg, LV')) m' ∧ AddV n V (f ((u : Int), (v : Int))) u v V' LV' ∧ Fr (CFr k n) W W' ∧ W.heap.size ≤ lg
theorem fr_cell (w : World) (g i : Nat) (x : Value) : Fr (fun z => z = g) w (w.setCell ⟨g, i, none⟩ x) := ⟨rfl, rfl, rfl, by simp [World.setCell], fun z _ hz => Below.heap_setCell _ _ _ _ hz⟩
/-- A row for those that are changed is new. -/
theorem CS.freshLast (h : CS B k n w f V la m) {lb lg : Nat} (hr : RowAt W lb lg n 0) (hb : Below w.heap.size w W) (hlg : w.heap.size ≤ lg) : CS B k n (W.setCell ⟨k.b, 4, none⟩ (.pointer (some ⟨lb, 0, none⟩))) f V (some (lb, lg, 0)) m :=
  (h.below hb).anew hr (Nat.le_trans h.size hlg) (fun a ha i hi e => by have := heap_lt (h.row a ha i hi).2.1; omega)
set_option maxRecDepth 100000 in
set_option maxHeartbeats 4000000 in
theorem add_ok (h : CS B k n w f V la m) (hm : m ≤ 100000) (hT : TabW w) (hTB : 0 < B) (hf : ∀ x, 0 ≤ f x ∧ f x ≤ 100000) {u v : Nat} (hu : u < n) (hv : v < n) :
    Calls Tryd.prog 10 #[.pointer (some ⟨k.b, 0, none⟩), .int .i64 (u : Int), .int .i64 (v : Int)] w (AddP B k n m f V u v w) := by
  have hn4 : (n : Int) ≤ 4096 := by have := h.hn; omega
  have hui : (u : Int) < (n : Int) := by omega
  have hvi : (v : Int) < (n : Int) := by omega
  have HN := Lib.hid (isNode_any h.v (u : Int))
  rw [decide_eq_true ⟨by omega, hui⟩] at HN
  have HC := Lib.hid h
  have HT := Lib.hid hT
  have HTB := Lib.hid hTB
  have HF := Lib.hid hf
  have HU := Lib.hid hu
  have HV := Lib.hid hv
  have HM := Lib.hid hm
  obtain ⟨c, hc⟩ : ∃ c, c = f ((u : Int), (v : Int)) := ⟨_, rfl⟩
  have hcb : 0 ≤ c ∧ c ≤ 100000 := by rw [hc]; exact hf _
  have HCE := Lib.hid hc
  clear h hm hT hTB hf hu hv hc
  go_enter Tryd.func10, Tryd.ntmps10
  go_wp2_with fail
  refine HN.out.mono ?_
  rintro e w1 ⟨rfl, hb⟩
  have HB1 := Lib.hid hb
  have HN2 := Lib.hid (isNode_any (HC.out.below hb).v (v : Int))
  rw [decide_eq_true ⟨by omega, hvi⟩] at HN2
  clear hb HN
  go_wp2_with fail
  refine HN2.out.mono ?_
  rintro e w2 ⟨rfl, hb⟩
  have HB2 := Lib.hid (HB1.out.trans (hb.mono HB1.out.size))
  have hcs := HC.out.below HB2.out
  obtain ⟨c0, _⟩ := hcs.cells
  have HOF := Lib.hid (of_any hcs.map (u : Int) (v : Int) (by omega) (by omega) (by have := HF.out ((u : Int), (v : Int)); omega))
  rw [← HCE.out] at HOF
  have hne : (c == 2147483647) = false := by rw [beq_eq_false_iff_ne]; omega
  clear hb HN2 HB1 hcs
  go_wp2_with fail
  refine HOF.out.mono ?_
  rintro e w3 ⟨rfl, rfl⟩
  have HSC := Lib.hid (set_any (HC.out.below HB2.out).map HM.out (u : Int) (v : Int) (c + 1) (by omega) (by omega) (by omega))
  have hcw : wrap64 (c + 1) = c + 1 := IntWalk.wrap64_in _ ⟨by omega, by omega⟩
  clear HOF
  go_wp2_with fail
  refine HSC.out.mono ?_
  rintro e w4 ⟨m', hm', rfl, hm4, hg4⟩
  have HC4 := Lib.hid ((HC.out.below HB2.out).count hm4 hg4)
  have HM4 := Lib.hid hm'
  have HF4 : Hid (Fr (CFr k n) w w4) := Lib.hid ((Fr.of_below HB2.out).trans (F' := fun g => g = k.mb) (Fr.of_grown hg4 (fun z hz => by injection hz with hz; exact hz.symm)) (fun g _ e => .inr (.inl e)))
  have HND := Lib.hid (nodes_any HC4.out.v)
  clear hm' hm4 hg4 HSC c0 hcw
  go_wp2_with fail
  refine HND.out.mono ?_
  rintro e w5 ⟨rfl, hb5⟩
  have HB5 := Lib.hid hb5
  have HNEW : Hid (Calls Tryd.prog 29 #[.int .i64 (n : Int)] w5 (RowNew n 0 w5)) := Lib.hid (by
    have := new_row (n : Int) w5
    rw [show Bits.rowLen (n : Int) = n by unfold Bits.rowLen; omega] at this
    exact this)
  clear hb5 HND
  go_wp2_with fail
  refine HNEW.out.mono ?_
  rintro e w6 ⟨lb, lg, rfl, hr6, hb6, h61, h62⟩
  have hb46 : Below w4.heap.size w4 w6 := HB5.out.trans (hb6.mono HB5.out.size)
  have HR6 : Hid (RowAt w6 lb lg n 0 ∧ Below w4.heap.size w4 w6 ∧ w4.heap.size ≤ lg) := Lib.hid ⟨hr6, hb46, by have := HB5.out.size; omega⟩
  obtain ⟨_, _, _, _, c4, c5⟩ := clo_cells (HC4.out.below hb46).head
  have HC7 := Lib.hid (HC4.out.freshLast hr6 hb46 HR6.out.2.2)
  obtain ⟨w7, hw7⟩ : ∃ X, X = w6.setCell ⟨k.b, 4, none⟩ (.pointer (some ⟨lb, 0, none⟩)) := ⟨_, rfl⟩
  have HF7 : Hid (Fr (CFr k n) w w7) := Lib.hid (by
    rw [hw7]
    exact (HF4.out.trans (F' := fun g => g = k.b) (Fr.of_below hb46) (fun g _ e => .inl e)).trans (fr_cell w6 k.b 4 _) (fun g _ e => .inl e))
  rw [← hw7] at HC7
  clear hr6 hb6 h61 h62 hb46 HNEW HB5
  by_cases hc0 : c = 0
  · subst hc0
    have HT7 : Hid (TabW w7) := Lib.hid (HT.out.fr HF7.out (fun e => by
      have hB := HTB.out
      obtain ⟨g1, g2, g3⟩ := HC.out.ge
      rcases e with e | e | ⟨a, i, ha, hi, e⟩
      · omega
      · omega
      · have := g3 a ha i hi
        omega))
    have HLK := Lib.hid (link_any HC7.out HT7.out HTB.out HU.out HV.out)
    have HLG : Hid (∀ g, g < w.heap.size → g ≠ lg) := Lib.hid fun g hg e => by
      have := HF4.out.size
      have := HR6.out.2.2
      omega
    clear hne hcb
    go_upto_region 8 with fail
    rw [← hw7]
    clear hw7 c4 c5
    go_wp2_with fail
    refine HLK.out.mono ?_
    rintro e w8 ⟨cs, G, LV', rfl, hcs, h1, h2, h3, hfr⟩
    have HR : Hid (AddP B k n m f V u v w (.returned (.int .i64 0)) w8) := Lib.hid ⟨m', _, lb, lg, LV', rfl, HM4.out, by rw [← HCE.out]; exact hcs, .inr ⟨HCE.out.symm, cs, G, rfl, fun x hx => by rw [h1 x hx]; simp, h2, h3⟩, HF7.out.trans hfr (fun g hg e => by
      rcases e with e | e
      · exact absurd e (HLG.out g hg)
      · exact .inr (.inr e)), by have := HF4.out.size; have := HR6.out.2.2; omega⟩
    clear hcs h1 h2 h3 hfr HLK
    go_wp2
    go_ret
    exact HR.out
  · have hne0 : (c == 0) = false := by rw [beq_eq_false_iff_ne]; exact hc0
    have HR : Hid (AddP B k n m f V u v w (.returned (.int .i64 0)) w7) := Lib.hid ⟨m', V, lb, lg, 0, rfl, HM4.out, by rw [← HCE.out]; exact HC7.out, .inl ⟨by rw [← HCE.out]; omega, rfl, rfl⟩, HF7.out, by have := HF4.out.size; have := HR6.out.2.2; omega⟩
    go_upto_region 8 with fail
    rw [← hw7]
    clear hw7 c4 c5
    go_wp2
    go_ret
    exact HR.out
end Go.Proofs.YtakgepdlninnhaaDoor.Cs
namespace Go.Proofs.YtakgepdlninnhaaDoor.Cs
open Go.ChangeShapes Go.WideShapes Go.ChangeAt Go.RowKit Base F Bits Df Cl
/-- The arcs that there are. -/
def Ar (n : Nat) (f : Int × Int → Int) (x y : Nat) : Prop := x < n ∧ y < n ∧ 0 < f ((x : Int), (y : Int))
/-- The rows say which arcs there are, and who is reached. -/
structure Good (n : Nat) (f : Int × Int → Int) (V : Nat → Nat → Nat) : Prop where
  next : ∀ x, x < n → ∀ y, y < n → ((V 0 x).testBit y = true ↔ Ar n f x y)
  prev : ∀ x, x < n → ∀ y, y < n → ((V 1 y).testBit x = true ↔ Ar n f x y)
  rows : ∀ x, x < n → ∀ y, y < n → ((V 2 x).testBit y = true ↔ Rs (Ar n f) x y)
/-- Whose rows were made other ones. -/
def Told (n : Nat) (V V' : Nat → Nat → Nat) (LV : Nat) : Prop := ∀ x, x < n → (LV.testBit x = true ↔ ¬ ∀ y, y < n → (V' 2 x).testBit y = (V 2 x).testBit y)
variable {n : Nat} {f : Int × Int → Int} {V V' : Nat → Nat → Nat} {u v : Nat}
theorem ar_lt {a b : Nat} (h : Rs (Ar n f) a b) : a < n ∧ b < n := by
  refine ⟨?_, ?_⟩
  · obtain ⟨c, h1, _⟩ := h.first
    exact h1.1
  · cases h with
    | arc e => exact e.2.1
    | tail _ e => exact e.2.1
theorem setC_cast {c : Int} (x y : Nat) : setC f ((u : Int), (v : Int)) c ((x : Int), (y : Int)) = if x = u ∧ y = v then c else f ((x : Int), (y : Int)) := by
  unfold setC
  by_cases h : x = u ∧ y = v
  · rw [if_pos h, h.1, h.2, if_pos rfl]
  · rw [if_neg h, if_neg (fun e => h ?_)]
    injection e with e1 e2
    exact ⟨by omega, by omega⟩
theorem ar_more (hu : u < n) (hv : v < n) (hf : 0 ≤ f ((u : Int), (v : Int))) (a b : Nat) : Ar n (setC f ((u : Int), (v : Int)) (f ((u : Int), (v : Int)) + 1)) a b ↔ Plus (Ar n f) u v a b := by
  unfold Ar Plus
  rw [setC_cast]
  by_cases h : a = u ∧ b = v
  · obtain ⟨rfl, rfl⟩ := h
    simp [hu, hv]
    omega
  · rw [if_neg h]
    constructor
    · exact .inl
    · rintro (h2 | h2)
      · exact h2
      · exact absurd h2 h
theorem rs_iff {E F : Nat → Nat → Prop} (h : ∀ a b, E a b ↔ F a b) (a b : Nat) : Rs E a b ↔ Rs F a b := ⟨fun k => k.mono fun a b e => (h a b).1 e, fun k => k.mono fun a b e => (h a b).2 e⟩
theorem good_add (hg : Good n f V) (hu : u < n) (hv : v < n) (hf : 0 ≤ f ((u : Int), (v : Int))) {LV : Nat} (ha : AddV n V (f ((u : Int), (v : Int))) u v V' LV) : Good n (setC f ((u : Int), (v : Int)) (f ((u : Int), (v : Int)) + 1)) V' ∧ Told n V V' LV := by
  have hm := fun a b => ar_more (n := n) (f := f) hu hv hf a b
  rcases ha with ⟨hc, rfl, rfl⟩ | ⟨hc, cs, G, rfl, hL, hcs, hG⟩
  · have same : ∀ a b, Ar n (setC f ((u : Int), (v : Int)) (f ((u : Int), (v : Int)) + 1)) a b ↔ Ar n f a b := fun a b => by
      rw [hm]
      unfold Plus
      constructor
      · rintro (h | ⟨rfl, rfl⟩)
        · exact h
        · exact ⟨hu, hv, hc⟩
      · exact .inl
    refine ⟨⟨fun x hx y hy => (hg.next x hx y hy).trans (same x y).symm, fun x hx y hy => (hg.prev x hx y hy).trans (same x y).symm, fun x hx y hy => (hg.rows x hx y hy).trans (rs_iff same x y).symm⟩, fun x _ => ?_⟩
    simp
  · have hnx : ∀ x y, x < n → y < n → ((arcV n V u v true 0 x).testBit y = true ↔ Plus (Ar n f) u v x y) := fun x y hx hy => by
      unfold arcV
      rw [upV_ne _ _ (by omega)]
      by_cases e : x = u
      · subst e
        rw [upV_at, setV_bit hv]
        unfold Plus
        by_cases e2 : y = v
        · simp [e2]
        · rw [if_neg e2, hg.next x hx y hy]; simp [e2]
      · rw [upV_ne _ _ (by omega), hg.next x hx y hy]
        unfold Plus
        simp [e]
    have hpv : ∀ x y, x < n → y < n → ((arcV n V u v true 1 y).testBit x = true ↔ Plus (Ar n f) u v x y) := fun x y hx hy => by
      unfold arcV
      by_cases e : y = v
      · subst e
        rw [upV_at, setV_bit hu]
        unfold Plus
        by_cases e2 : x = u
        · simp [e2]
        · rw [if_neg e2, hg.prev x hx y hy]; simp [e2]
      · rw [upV_ne _ _ (by omega), upV_ne _ _ (by omega), hg.prev x hx y hy]
        unfold Plus
        simp [e]
    have h01 : ∀ a, a ≠ 2 → ∀ x, gainV n (arcV n V u v true) v G cs a x = arcV n V u v true a x := fun a ha x => by
      unfold gainV
      rw [if_neg (fun h => ha h.1)]
    have hrow : ∀ x y, x < n → y < n → (((gainV n (arcV n V u v true) v G cs 2 x).testBit y = true) ↔ ((V 2 x).testBit y = true ∨ ((x ∈ cs ∧ (V 2 x).testBit v = false) ∧ (y = v ∨ (V 2 v).testBit y = true)))) := fun x y hx hy => by
      unfold gainV
      rw [arcV_two]
      by_cases h : x ∈ cs ∧ (V 2 x).testBit v = false
      · rw [if_pos ⟨rfl, h⟩, orV_testBit, decide_eq_true hy, Bool.true_and, Bool.or_eq_true, hG y hy, Bool.or_eq_true, decide_eq_true_eq]
        simp [h]
      · rw [if_neg (fun h2 => h h2.2)]
        constructor
        · exact .inl
        · rintro (h2 | h2)
          · exact h2
          · exact absurd h2.1 h
    have hreach : ∀ x y, x < n → y < n → ((gainV n (arcV n V u v true) v G cs 2 x).testBit y = true ↔ Rs (Plus (Ar n f) u v) x y) := fun x y hx hy => by
      rw [hrow x y hx hy, plus_iff, hcs x, hg.rows x hx y hy, hg.rows v hv y hy]
      have hxu := hg.rows x hx u hu
      have hxv := hg.rows x hx v hv
      have huv := hg.rows u hu v hv
      constructor
      · rintro (h | ⟨⟨⟨_, _, h1⟩, _⟩, h2⟩)
        · exact .inl h
        · refine .inr ⟨?_, h2⟩
          rcases h1 with h1 | h1
          · exact .inl h1
          · exact .inr (hxu.1 h1)
      · rintro (h | ⟨h1, h2⟩)
        · exact .inl h
        · -- who had it has it still
          by_cases hv2 : (V 2 x).testBit v = true
          · left
            rcases h2 with rfl | h2
            · exact hxv.1 hv2
            · exact (hxv.1 hv2).trans h2
          · have hv3 : (V 2 x).testBit v = false := by
              cases e : (V 2 x).testBit v with
              | false => rfl
              | true => exact absurd e hv2
            refine .inr ⟨⟨⟨hx, ?_, ?_⟩, hv3⟩, h2⟩
            · cases e : (V 2 u).testBit v with
              | false => rfl
              | true =>
                refine absurd (hxv.2 ?_) hv2
                rcases h1 with rfl | h1
                · exact huv.1 e
                · exact h1.trans (huv.1 e)
            · rcases h1 with h1 | h1
              · exact .inl h1
              · exact .inr (hxu.2 h1)
    refine ⟨⟨fun x hx y hy => ?_, fun x hx y hy => ?_, fun x hx y hy => ?_⟩, fun x hx => ?_⟩
    · rw [h01 0 (by decide), hm]; exact hnx x y hx hy
    · rw [h01 1 (by decide), hm]; exact hpv x y hx hy
    · rw [hreach x y hx hy]; exact (rs_iff hm x y).symm
    · rw [hL x hx]
      unfold gotB
      rw [Bool.and_eq_true, decide_eq_true_eq]
      constructor
      · rintro ⟨h1, h2⟩ hall
        have h3 := hall v hv
        have h4 : (gainV n (arcV n V u v true) v G cs 2 x).testBit v = true := (hrow x v hx hv).2 (.inr ⟨⟨h1, by simpa using h2⟩, .inl rfl⟩)
        rw [h4] at h3
        rw [← h3] at h2
        cases h2
      · intro hno
        apply Classical.byContradiction
        intro h
        refine hno fun y hy => ?_
        have h2 : ¬ (x ∈ cs ∧ (V 2 x).testBit v = false) := fun h3 => h ⟨h3.1, by rw [h3.2]; rfl⟩
        rw [Bool.eq_iff_iff, hrow x y hx hy]
        constructor
        · rintro (h3 | h3)
          · exact h3
          · exact absurd h3.1 h2
        · exact .inl
end Go.Proofs.YtakgepdlninnhaaDoor.Cs
namespace Go.Proofs.YtakgepdlninnhaaDoor.Cs
open Df Cl
variable {n : Nat} {E : Nat → Nat → Prop} {V : Nat → Nat → Nat} {u v : Nat}
/-- An arc is going: the rows of arcs know it, those of who is reached don't yet. -/
structure Going (n : Nat) (E : Nat → Nat → Prop) (u v : Nat) (V : Nat → Nat → Nat) : Prop where
  arc : E u v
  lt : ∀ a b, E a b → a < n ∧ b < n
  next : ∀ x, x < n → ∀ y, y < n → ((V 0 x).testBit y = true ↔ Less E u v x y)
  prev : ∀ x, x < n → ∀ y, y < n → ((V 1 y).testBit x = true ↔ Less E u v x y)
  rows : ∀ x, x < n → ∀ y, y < n → ((V 2 x).testBit y = true ↔ Rs E x y)
theorem rs_lt (hE : ∀ a b, E a b → a < n ∧ b < n) {a b : Nat} (h : Rs E a b) : a < n ∧ b < n := by
  refine ⟨?_, ?_⟩
  · obtain ⟨c, h1, _⟩ := h.first
    exact (hE _ _ h1).1
  · cases h with
    | arc e => exact (hE _ _ e).2
    | tail _ e => exact (hE _ _ e).2
theorem mem_nxl {nV : Nat → Nat} {x y : Nat} : y ∈ nxl n nV x ↔ y < n ∧ (nV x).testBit y = true := by
  unfold nxl preB
  rw [List.mem_filter, List.mem_range]
/-- The search from the arc's start meets its component. -/
theorem co_list (h : Going n E u v V) {A M : Nat → Bool} {o : List Nat} (hA : ∀ x, A x = true ↔ x < n ∧ (x = u ∨ Rs E x u)) (hd : Dfs (nxl n (V 0)) [u] A M o) (x : Nat) : x ∈ o ↔ Co E u v x := by
  have hun := (h.lt _ _ h.arc).1
  have key : Thr (nxl n (V 0)) A u x ↔ (x = u ∨ Rs (fun a b => Less E u v a b ∧ (b = u ∨ Rs E b u)) u x) := by
    constructor
    · intro k
      induction k with
      | refl _ => exact .inl rfl
      | @tail b c k e hc ih =>
        right
        have hb := ((hA b).1 k.left).1
        obtain ⟨hcn, hcb⟩ := mem_nxl.1 e
        have e2 : Less E u v b c ∧ (c = u ∨ Rs E c u) := ⟨(h.next b hb c hcn).1 hcb, ((hA c).1 hc).2⟩
        rcases ih with rfl | ih
        · exact .arc e2
        · exact ih.tail e2
    · rintro (rfl | k)
      · exact .refl ((hA _).2 ⟨hun, .inl rfl⟩)
      · induction k with
        | @arc b e =>
          obtain ⟨e1, e2⟩ := h.lt _ _ e.1.1
          exact (Thr.refl ((hA u).2 ⟨hun, .inl rfl⟩)).tail (mem_nxl.2 ⟨e2, (h.next u e1 b e2).2 e.1⟩) ((hA b).2 ⟨e2, e.2⟩)
        | @tail b c _ e ih =>
          obtain ⟨e1, e2⟩ := h.lt _ _ e.1.1
          exact ih.tail (mem_nxl.2 ⟨e2, (h.next b e1 c e2).2 e.1⟩) ((hA c).2 ⟨e2, e.2⟩)
  rw [hd.iff]
  constructor
  · rintro ⟨m, hm, k⟩
    rw [List.mem_singleton] at hm
    subst hm
    exact (less_comp h.arc (fun x => x = m ∨ Rs E x m) (fun x => Iff.rfl)).1 (key.1 k)
  · intro k
    exact ⟨u, List.mem_singleton.2 rfl, key.2 ((less_comp h.arc (fun x => x = u ∨ Rs E x u) (fun x => Iff.rfl)).2 k)⟩
theorem co_lt (h : Going n E u v V) {x : Nat} (hx : Co E u v x) : x < n := by
  rcases hx with rfl | ⟨h1, _⟩
  · exact (h.lt _ _ h.arc).1
  · exact (rs_lt h.lt (less_sub h1)).2
/-- The row that settle makes of it. -/
theorem co_x (h : Going n E u v V) {o : List Nat} (ho : ∀ x, x ∈ o ↔ Co E u v x) {X : Nat} (hX : SetX n V o X) {a b : Nat} (ha : Co E u v a) (hb : b < n) : X.testBit b = true ↔ Rs (Less E u v) a b := by
  obtain ⟨done, hd, hrow, hall⟩ := hX
  have hgo : ∀ t, t < n → (goesB V o t = true ↔ ∃ x, Co E u v x ∧ Less E u v x t) := fun t ht => by
    unfold goesB
    rw [List.any_eq_true]
    constructor
    · rintro ⟨x, hx, hb⟩
      have hc := (ho x).1 hx
      exact ⟨x, hc, (h.next x (co_lt h hc) t ht).1 hb⟩
    · rintro ⟨x, hc, e⟩
      exact ⟨x, (ho x).2 hc, (h.next x (co_lt h hc) t ht).2 e⟩
  have hR : ∀ t, t < n → ∀ b, b < n → ((V 2 t).testBit b = true ↔ Rs E t b) := h.rows
  have key := settle_end (R := fun t b => Rs E t b) (row0 := fun b => b ∈ o ∧ ∃ y ∈ o, goesB V o y = true) (row := fun b => b < n ∧ X.testBit b = true) (N := fun t => t < n ∧ t ∉ o ∧ goesB V o t = true) (done := done)
    (fun a b c _ h1 _ h2 => h1.trans h2) hd (fun t h1 h2 => h1.2.1 h2.1) (fun b => by
      constructor
      · rintro ⟨hb, hx⟩
        rcases (hrow b hb).1 hx with h1 | ⟨t, h1, h2⟩
        · exact .inl h1
        · refine .inr ⟨t, h1, h2.imp id fun h3 => (hR t (hd t h1).1 b hb).1 h3⟩
      · rintro (h1 | ⟨t, h1, h2⟩)
        · have hb := co_lt h ((ho b).1 h1.1)
          exact ⟨hb, (hrow b hb).2 (.inl h1)⟩
        · have ht := (hd t h1).1
          have hb : b < n := by
            rcases h2 with rfl | h2
            · exact ht
            · exact (rs_lt h.lt h2).2
          exact ⟨hb, (hrow b hb).2 (.inr ⟨t, h1, h2.imp id fun h3 => (hR t ht b hb).2 h3⟩)⟩) (fun t ht => ⟨ht.1, hall t ht.1 ht.2.1 ht.2.2⟩) b
  have e : X.testBit b = true ↔ (b < n ∧ X.testBit b = true) := ⟨fun h => ⟨hb, h⟩, fun h => h.2⟩
  rw [e, key, co_row h.arc ha]
  constructor
  · rintro (⟨h1, y, hy, h2⟩ | ⟨t, ⟨ht, h1, h2⟩, h3⟩)
    · obtain ⟨x, hx, e⟩ := (hgo y (co_lt h ((ho y).1 hy))).1 h2
      exact .inl ⟨⟨x, y, hx, (ho y).1 hy, e⟩, (ho b).1 h1⟩
    · obtain ⟨x, hx, e⟩ := (hgo t ht).1 h2
      exact .inr ⟨x, t, hx, e, fun hc => h1 ((ho t).2 hc), h3⟩
  · rintro (⟨⟨x, y, hx, hy, e⟩, h4⟩ | ⟨x, y, hx, e, hy, h4⟩)
    · exact .inl ⟨(ho b).2 h4, y, (ho y).2 hy, (hgo y (co_lt h hy)).2 ⟨x, hx, e⟩⟩
    · have hyn := (h.lt _ _ e.1).2
      exact .inr ⟨y, ⟨hyn, fun hc => hy ((ho y).1 hc), (hgo y hyn).2 ⟨x, hx, e⟩⟩, h4⟩
/-- Behind settle: the component's rows are right, the others are as they were. -/
theorem co_cut (h : Going n E u v V) {o : List Nat} (ho : ∀ x, x ∈ o ↔ Co E u v x) {X : Nat} (hX : SetX n V o X) {x y : Nat} (hx : x < n) (hy : y < n) : (cutV V X o 2 x).testBit y = true ↔ (if x ∈ o then Rs (Less E u v) x y else Rs E x y) := by
  unfold cutV
  by_cases hm : x ∈ o
  · rw [if_pos ⟨rfl, hm⟩, if_pos hm, Nat.testBit_and, Bool.and_eq_true, h.rows x hx y hy, co_x h ho hX ((ho x).1 hm) hy]
    exact ⟨fun k => k.2, fun k => ⟨less_sub k, k⟩⟩
  · rw [if_neg (fun k => hm k.2), if_neg hm]
    exact h.rows x hx y hy
end Go.Proofs.YtakgepdlninnhaaDoor.Cs
namespace Go.Proofs.YtakgepdlninnhaaDoor.Cs
open Go.ChangeShapes Go.WideShapes Go.ChangeAt Go.RowKit Base F Bits Df
variable {B n m lb lg LV : Nat} {k : CB} {w W W0 W' : World} {f : Int × Int → Int} {V : Nat → Nat → Nat} {la : La}
theorem rowInts_nat (n X : Nat) : rowInts n X = natI (preB (fun x => X.testBit x) n) := rfl
/-- Rows out of which a node is taken. -/
def lostV (n : Nat) (V : Nat → Nat → Nat) (v : Nat) (cs : List Nat) : Nat → Nat → Nat := fun a x => if a = 2 ∧ x ∈ cs then setV n (V 2 x) (v : Int) false else V a x
theorem setV_same {n X v : Nat} (hv : v < n) : setV n (setV n X (v : Int) false) (v : Int) false = setV n X (v : Int) false := by
  apply Nat.eq_of_testBit_eq
  intro x
  rw [setV_bit hv, setV_bit hv]
  split <;> rfl
theorem lostV_succ {n v c : Nat} {cs : List Nat} (hv : v < n) : upV (lostV n V v cs) 2 c (setV n (lostV n V v cs 2 c) (v : Int) false) = lostV n V v (cs ++ [c]) := by
  funext a x
  unfold upV
  by_cases h : a = 2 ∧ x = c
  · obtain ⟨rfl, rfl⟩ := h
    rw [if_pos ⟨rfl, rfl⟩]
    unfold lostV
    rw [if_pos (show 2 = 2 ∧ x ∈ cs ++ [x] from ⟨rfl, by simp⟩)]
    split
    · exact setV_same hv
    · rfl
  · rw [if_neg h]
    unfold lostV
    by_cases h2 : a = 2 ∧ x ∈ cs
    · rw [if_pos h2, if_pos ⟨h2.1, by simp [h2.2]⟩]
    · rw [if_neg h2, if_neg (fun h3 => ?_)]
      rcases List.mem_append.1 h3.2 with h4 | h4
      · exact h2 ⟨h3.1, h4⟩
      · rw [List.mem_singleton] at h4
        exact h ⟨h3.1, h4⟩
/-- What lose leaves. -/
def LoseP (B : Nat) (k : CB) (n m lb lg LV : Nat) (f : Int × Int → Int) (V : Nat → Nat → Nat) (S v : Nat) (W : World) (e : Ending) (W' : World) : Prop :=
  ∃ (A X : Nat) (o cs : List Nat) (LV' : Nat), e = .returned (.tuple #[]) ∧ (∀ x, x < n → A.testBit x = (decide (x = v) || (V 2 x).testBit v)) ∧ A < 2 ^ n ∧ Dfs (nxl n (V 1)) (preB (fun x => (V 1 v).testBit x) n) (fun x => A.testBit x) (fun x => X.testBit x) o ∧ (∀ x, x ∈ cs ↔ (x < n ∧ S.testBit x = true ∧ X.testBit x = true)) ∧ CS B k n W' f (lostV n V v cs) (some (lb, lg, LV')) m ∧ (∀ x, x < n → LV'.testBit x = (LV.testBit x || decide (x ∈ cs))) ∧ Fr (fun g => g = lg ∨ ∃ a i, a < 3 ∧ i < n ∧ g = k.rg a i) W W'
/-- Where its first loop is. -/
def B1 (W0 : World) (n bl gl : Nat) (V : Nat → Nat → Nat) (A : Nat) (ps : List Nat) (wr : World) : Prop := ∃ (X : Nat) (o : List Nat), Dfs (nxl n (V 1)) ps (fun x => A.testBit x) (fun x => X.testBit x) o ∧ RowAt wr bl gl n X ∧ Fr (fun g => g = gl) W0 wr
/-- Where its second loop is. -/
def B2 (B : Nat) (k : CB) (n m lb lg LV : Nat) (f : Int × Int → Int) (V : Nat → Nat → Nat) (v : Nat) (cs : List Nat) (w wr : World) : Prop :=
  ∃ LV' : Nat, CS B k n wr f (lostV n V v cs) (some (lb, lg, LV')) m ∧ (∀ x, x < n → LV'.testBit x = (LV.testBit x || decide (x ∈ cs))) ∧ Fr (fun g => g = lg ∨ ∃ a i, a < 3 ∧ i < n ∧ g = k.rg a i) w wr
set_option maxRecDepth 100000 in
set_option maxHeartbeats 8000000 in
theorem lose_any (h : CS B k n w f V (some (lb, lg, LV)) m) (hT : TabW w) (hTB : 0 < B) {bs gs S v : Nat} (hS : RowAt w bs gs n S) (hv : v < n) :
    Calls Tryd.prog 50 #[.pointer (some ⟨k.b, 0, none⟩), .pointer (some ⟨bs, 0, none⟩), .int .i64 (v : Int)] w (LoseP B k n m lb lg LV f V S v w) := by
  have hn4 : (n : Int) ≤ 4096 := by have := h.hn; omega
  have hvi : (v : Int) < (n : Int) := by omega
  have HAH := Lib.hid (ahead_any h hv)
  have HC := Lib.hid h
  have HT := Lib.hid hT
  have HTB := Lib.hid hTB
  have HV := Lib.hid hv
  have HSS := Lib.hid hS
  clear h hT hTB hv hS
  go_enter Tryd.func50, Tryd.ntmps50
  go_wp2_with fail
  refine HAH.out.mono ?_
  rintro e w1 ⟨bA, gA, A, rfl, hrA, hA, hb1, _, _⟩
  have HBW := Lib.hid (backward_any (k := k) hrA)
  have HA : Hid ((∀ x, x < n → A.testBit x = (decide (x = v) || (V 2 x).testBit v)) ∧ A < 2 ^ n) := Lib.hid ⟨hA, hrA.2.2.2⟩
  have HB1 := Lib.hid hb1
  clear hrA hA hb1 HAH
  go_wp2_with fail
  refine HBW.out.mono ?_
  rintro e w2 ⟨bl, gl, cg, rfl, hrl, hcg, hb2, hgl⟩
  have H2 : Hid (RowAt w2 bl gl n A ∧ w2.heap[cg]? = some (cellF k.b) ∧ Below w.heap.size w w2 ∧ w.heap.size ≤ gl) := Lib.hid ⟨hrl, hcg, HB1.out.trans (hb2.mono HB1.out.size), by have := HB1.out.size; omega⟩
  clear hrl hcg hb2 hgl HBW HB1
  obtain ⟨g6, hg6⟩ : ∃ g, g = w2.heap.size := ⟨_, rfl⟩
  have HG6 := Lib.hid hg6
  have HB2A : Hid (Below w.heap.size w (w2.alloc (.cells #[.nilFunc, .pointer none] 79))) := Lib.hid (H2.out.2.2.1.trans (((Below.refl _ _).alloc (Nat.le_refl _) _).mono H2.out.2.2.1.size))
  go_wp2_with (refine wpList_store_se rfl (.tmp 6) (.tmp 16) rfl g6 71 #[.pointer (some ⟨cg, 0, none⟩)] bl _ (by rw [hg6]; rfl) rfl (heap_alloc_at _ _ _ hg6) rfl ?_; intro w3 hst; have hb23 : Below w.heap.size w w3 := hst.below HB2A.out (by rw [hg6]; exact H2.out.2.2.1.size); have HB3 := Lib.hid hb23; obtain ⟨_, _, c2, _, _⟩ := (HC.out.below hb23).cells; obtain ⟨g1, hp, hlt, hcl⟩ := (HC.out.below hb23).way (a := 1) (by omega) HV.out; rw [hp] at c2; have HST := Lib.hid hst; clear hst hb23 hp)
  have hr3 := (HC.out.below HB3.out).row 1 (by omega) v HV.out
  have ht3 := HT.out.below HB3.out
  have HLI := Lib.hid (rowList_any (k.rb 1 v) (k.rg 1 v) n (V 1 v) w3 hr3 ht3.1 ht3.2)
  have H3 : Hid (RowAt w3 bl gl n A ∧ w3.heap[cg]? = some (cellF k.b) ∧ w3.heap[g6]? = some (.cells #[fnV 71 #[.pointer (some ⟨cg, 0, none⟩)], .pointer (some ⟨bl, 0, none⟩)] 79)) := Lib.hid (by
    have hst := HST.out
    have ne : ∀ g, g < w2.heap.size → w3.heap[g]? = w2.heap[g]? := fun g hg => by
      rw [hst.2.2.2.2.2 g (by rw [HG6.out]; omega)]
      exact ((Below.refl w2.heap.size w2).alloc (Nat.le_refl _) _).block g hg
    exact ⟨H2.out.1.keep (ne _ (heap_lt H2.out.1.1)) (ne _ (heap_lt H2.out.1.2.1)), (ne _ (heap_lt H2.out.2.1)).trans H2.out.2.1, hst.2.2.2.2.1⟩)
  clear hr3 ht3 HST HB2A
  refine HLI.out.mono ?_
  rintro e w4 ⟨⟨lv, rfl, hown⟩, hb4⟩
  have hb34 : Below w.heap.size w w4 := HB3.out.trans (hb4.mono HB3.out.size)
  have HC4 := Lib.hid (HC.out.below hb34)
  have HB4 := Lib.hid hb34
  rw [rowInts_nat] at hown
  obtain ⟨ps, hps⟩ : ∃ ps, ps = preB (fun x => (V 1 v).testBit x) n := ⟨_, rfl⟩
  rw [← hps] at hown
  have HPS := Lib.hid hps
  have HPM : Hid (∀ x ∈ ps, x < n) := Lib.hid fun x hx => by
    rw [hps] at hx
    unfold preB at hx
    exact List.mem_range.1 (List.mem_filter.1 hx).1
  have hpl : ps.length ≤ 4096 := by
    rw [hps]
    have := List.length_filter_le (fun x => (V 1 v).testBit x) (List.range n)
    rw [List.length_range] at this
    have h3 := HC.out.hn
    unfold preB
    omega
  have H4 : Hid (RowAt w4 bl gl n A ∧ w4.heap[cg]? = some (cellF k.b) ∧ w4.heap[g6]? = some (.cells #[fnV 71 #[.pointer (some ⟨cg, 0, none⟩)], .pointer (some ⟨bl, 0, none⟩)] 79) ∧ Lst.OwnI w3.heap.size w4 lv (natI ps)) := Lib.hid ⟨H3.out.1.below hb4, (hb4.block _ (heap_lt H3.out.2.1)).trans H3.out.2.1, (hb4.block _ (heap_lt H3.out.2.2)).trans H3.out.2.2, hown⟩
  have HOU : Hid (Out k n (some (lb, lg, LV)) w4 gl) := Lib.hid (Out.new HC.out H2.out.2.2.2 H4.out.1.2.1)
  have HNX := Lib.hid (nxF_backward HC4.out HOU.out (HT.out.below hb34) (by have := HT.out.2; have := H2.out.2.2.2; omega) H4.out.2.1)
  obtain ⟨pc, cc, hlv, hcell⟩ := own_cell hown (by omega)
  subst hlv
  have HPC : Hid (∀ i, i < ps.length → ∃ g o, pc = some ⟨g, o, none⟩ ∧ (∀ W' : World, Fr (fun g => g = gl) w4 W' → W'.cell? ⟨g, o + i, none⟩ = some (.int .i64 ((ps.getD i 0 : Nat) : Int))) ∧ ps.getD i 0 < n ∧ ps.take (i + 1) = ps.take i ++ [ps.getD i 0]) := Lib.hid fun i hi => by
    obtain ⟨g, o, h1, h2⟩ := hcell i hi
    have e : ps.getD i 0 = ps[i] := by simp [List.getD_eq_getElem?_getD, hi]
    refine ⟨g, o, h1, fun W' hW => h2 W' (fun g' hg => hW.block (World.ownsRow.lt hown g' hg).2 (fun hF => ?_)), by rw [e]; exact HPM.out _ (List.getElem_mem hi), by rw [e, List.take_succ_eq_append_getElem hi]⟩
    have := own_ne hown H4.out.1.2.1 (by decide)
    rw [hg, hF] at this
    exact this rfl
  have HBX : Hid (∀ X : World, Fr (fun g => g = gl) w4 X → X.cell? ⟨g6, 0, none⟩ = some (.func (.func 71) #[] #[.pointer (some ⟨cg, 0, none⟩)]) ∧ X.cell? ⟨g6, 1, none⟩ = some (.pointer (some ⟨bl, 0, none⟩))) := Lib.hid fun X hX => by
    have hx := H4.out.2.2.1
    have hne : g6 ≠ gl := fun e => by
      have h1 := H4.out.1.2.1
      rw [← e, hx] at h1
      simp only [Option.some.injEq, Obj.cells.injEq] at h1
      exact absurd h1.2.1 (by decide)
    have h2 := (hX.block (heap_lt hx) hne).trans hx
    unfold fnV at h2
    simp [World.cell?, h2]
  obtain ⟨M, hM⟩ : ∃ M, M = ps.length := ⟨_, rfl⟩
  have HMM := Lib.hid hM
  have hMi : (M : Int) ≤ 4096 := by omega
  rw [← hM] at HPC ⊢
  have HI0 : Hid (B1 w4 n bl gl V A (ps.take 0) w4) := Lib.hid ⟨A, [], .nil, H4.out.1, Fr.refl _ _⟩
  rw [← hg6]
  clear hown hb4 hb34 hps hpl hM hcell hg6 HLI H3 HB3 c2 hlt hcl
  go_wp2_with fail
  go_loopw [26] (fun s26 wr => ∃ i : Nat, s26 = .int .i64 (i : Int) ∧ i ≤ M ∧ Hid (B1 w4 n bl gl V A (ps.take i) wr)) (fun s26 _ => M - (intOf s26).toNat)
  case atStart => exact ⟨0, rfl, Nat.zero_le _, HI0⟩
  case round =>
    clear HI0
    obtain ⟨i, rfl, hi, HI⟩ := hrel
    by_cases hlt : i < M
    · obtain ⟨X, o, hd, hrX, hfr⟩ := HI.out
      obtain ⟨g, o2, rfl, hcx, hxn, htk⟩ := HPC.out i hlt
      have hx := hcx wr hfr
      have hii : (i : Int) < (M : Int) := by omega
      obtain ⟨d0, d1⟩ := HBX.out wr hfr
      obtain ⟨c, hcd⟩ : ∃ c, c = ps.getD i 0 := ⟨_, rfl⟩
      rw [← hcd] at hx hxn htk
      have hci : (c : Int) < (n : Int) := by omega
      have HFR := Lib.hid (from_any HNX.out (cntB (fun x => X.testBit x) n) wr X c (.slice none 0 0) [] hfr hrX (Lst.OwnI.nil _ _) hxn (Nat.le_refl _) (by have := cntB_le_n (fun x => X.testBit x) n; have := HC.out.hn; simp; omega))
      have HDD : Hid (Dfs (nxl n (V 1)) (ps.take i) (fun x => A.testBit x) (fun x => X.testBit x) o ∧ Fr (fun g => g = gl) w4 wr ∧ ps.take (i + 1) = ps.take i ++ [c]) := Lib.hid ⟨hd, hfr, htk⟩
      unfold fnV at HFR
      clear hd hrX hfr hcx hxn htk hcd HI
      go_wp2_with fail
      refine HFR.out.mono ?_
      rintro e w5 ⟨v5, X5, o5, rfl, _, hr5, hd5, hf5, _⟩
      have HN5 : Hid (B1 w4 n bl gl V A (ps.take (i + 1)) w5) := Lib.hid ⟨X5, o ++ o5, by rw [HDD.out.2.2]; exact dfs_snoc HDD.out.1 hd5, hr5, HDD.out.2.1.trans hf5 (fun g _ e => e.elim id fun e => by simp [Value.ownBlock] at e)⟩
      clear hr5 hd5 hf5 HFR HDD d0 d1
      go_wp2_with fail
      go_roundw
      case rel => exact ⟨i + 1, by go_num, hlt, HN5⟩
      case measure => simp [intOf]; omega
    · have e : M = i := by omega
      have HE : Hid (B1 w4 n bl gl V A ps wr) := Lib.hid (by
        have h := HI.out
        rw [← e, HMM.out, List.take_length] at h
        exact h)
      clear HI e hi
      obtain ⟨X, o, hd, hrX, hfr⟩ := HE.out
      have HDD : Hid (Dfs (nxl n (V 1)) ps (fun x => A.testBit x) (fun x => X.testBit x) o) := Lib.hid hd
      have hbr : Below w.heap.size w wr := HB4.out.trans (hfr.below (fun g e => by rw [e]; exact H2.out.2.2.2) HB4.out.size)
      have HCR := Lib.hid (HC4.out.fr HOU.out hfr)
      have hSr : RowAt wr bs gs n S := HSS.out.below hbr
      have HCP := Lib.hid (copy_row bs gs n S wr hSr)
      have HBR := Lib.hid hbr
      have HXR := Lib.hid hrX
      obtain ⟨d0, d1⟩ := HBX.out wr hfr
      have HD1 := Lib.hid d1
      have hg6r : g6 < wr.heap.size := Nat.lt_of_lt_of_le (heap_lt H4.out.2.2.1) hfr.size
      have HG6R := Lib.hid hg6r
      clear hd hrX hfr hbr hSr HE HPC HNX d0 d1 hg6r
      go_wp2_with fail
      refine HCP.out.mono ?_
      rintro e wA ⟨bL, gL, rfl, hrL, hbA, hb1, hb2⟩
      have d1 : wA.cell? ⟨g6, 1, none⟩ = some (.pointer (some ⟨bl, 0, none⟩)) := (hbA.cell (p := ⟨g6, 1, none⟩) HG6R.out).trans HD1.out
      have hxA := HXR.out.below hbA
      have HAND := Lib.hid (and_row bL gL n S bl gl n X wA hrL hxA ⟨row_ne hxA hrL, fun e => by have := heap_lt HXR.out.2.1; omega⟩)
      have HAA : Hid (Below wr.heap.size wr wA ∧ wr.heap.size ≤ gL) := Lib.hid ⟨hbA, hb2⟩
      clear hrL hbA hb1 hb2 hxA HCP
      go_wp2_with fail
      refine HAND.out.mono ?_
      rintro e wB ⟨rfl, hrB, hgB⟩
      have hbB : Below wr.heap.size wr wB := Below.grown HAA.out.1 hgB HAA.out.1.size (fun z hz => by injection hz with hz; rw [← hz]; exact HAA.out.2)
      have htB := HT.out.below (HBR.out.trans (hbB.mono HBR.out.size))
      have HLI := Lib.hid (rowList_any bL gL n (S &&& X) wB hrB htB.1 htB.2)
      have HBB := Lib.hid hbB
      clear hrB hgB hbB htB HAND d1 HAA
      go_wp2_with fail
      refine HLI.out.mono ?_
      rintro e wC ⟨⟨lv, rfl, hown⟩, hbC⟩
      rw [rowInts_nat] at hown
      obtain ⟨cs, hcs⟩ : ∃ cs, cs = preB (fun x => (S &&& X).testBit x) n := ⟨_, rfl⟩
      rw [← hcs] at hown
      have HMEM : Hid (∀ x, x ∈ cs ↔ (x < n ∧ S.testBit x = true ∧ X.testBit x = true)) := Lib.hid fun x => by
        rw [hcs]
        unfold preB
        rw [List.mem_filter, List.mem_range, Nat.testBit_and, Bool.and_eq_true]
      have hcl2 : cs.length ≤ 4096 := by
        rw [hcs]
        have := List.length_filter_le (fun x => (S &&& X).testBit x) (List.range n)
        rw [List.length_range] at this
        have h3 := HC.out.hn
        unfold preB
        omega
      have HCC := Lib.hid (HCR.out.below (HBB.out.trans (hbC.mono HBB.out.size)))
      have HBC := Lib.hid (HBR.out.trans ((HBB.out.trans (hbC.mono HBB.out.size)).mono HBR.out.size))
      obtain ⟨pd, cd, hlv, hcell⟩ := own_cell hown (by omega)
      subst hlv
      have HCU : Hid (∀ i, i < cs.length → ∃ g o, pd = some ⟨g, o, none⟩ ∧ (∀ W' : World, Fr (fun g => g = lg ∨ ∃ a i, a < 3 ∧ i < n ∧ g = k.rg a i) wC W' → W'.cell? ⟨g, o + i, none⟩ = some (.int .i64 ((cs.getD i 0 : Nat) : Int))) ∧ cs.getD i 0 < n ∧ cs.take (i + 1) = cs.take i ++ [cs.getD i 0]) := Lib.hid fun i hi => by
        obtain ⟨g, o, h1, h2⟩ := hcell i hi
        have e : cs.getD i 0 = cs[i] := by simp [List.getD_eq_getElem?_getD, hi]
        refine ⟨g, o, h1, fun W' hW => h2 W' (fun g' hg => hW.block (World.ownsRow.lt hown g' hg).2 (fun hF => ?_)), by rw [e]; exact ((HMEM.out _).1 (List.getElem_mem hi)).1, by rw [e, List.take_succ_eq_append_getElem hi]⟩
        rcases hF with e | ⟨a, x, ha, hx, e⟩
        · have := own_ne hown (HCC.out.lst _ rfl).1.2.1 (by decide)
          rw [hg, e] at this
          exact this rfl
        · have := own_ne hown (HCC.out.row a ha x hx).2.1 (by decide)
          rw [hg, e] at this
          exact this rfl
      obtain ⟨K, hK⟩ : ∃ K, K = cs.length := ⟨_, rfl⟩
      have HKK := Lib.hid hK
      have hKi : (K : Int) ≤ 4096 := by omega
      rw [← hK] at HCU ⊢
      have HJ0 : Hid (B2 B k n m lb lg LV f V v (cs.take 0) wC wC) := Lib.hid ⟨LV, by
        have : lostV n V v (cs.take 0) = V := by funext a x; unfold lostV; simp
        rw [this]; exact HCC.out, fun x _ => by simp, Fr.refl _ _⟩
      clear hown hbC hcs hcl2 hcell hK HLI HBB HCR HXR HD1 HG6R
      go_wp2_with fail
      go_loopw [43] (fun s43 wr => ∃ i : Nat, s43 = .int .i64 (i : Int) ∧ i ≤ K ∧ Hid (B2 B k n m lb lg LV f V v (cs.take i) wC wr)) (fun s43 _ => K - (intOf s43).toNat)
      case atStart => exact ⟨0, rfl, Nat.zero_le _, HJ0⟩
      case round =>
        clear HJ0
        obtain ⟨i, rfl, hi, HJ⟩ := hrel
        by_cases hlt : i < K
        · obtain ⟨g, o2, rfl, hcx, hxn, htk⟩ := HCU.out i hlt
          obtain ⟨LVi, hcs2, hLV, hfr⟩ := HJ.out
          have hx := hcx _ hfr
          have hii : (i : Int) < (K : Int) := by omega
          obtain ⟨c, hcd⟩ : ∃ c, c = cs.getD i 0 := ⟨_, rfl⟩
          rw [← hcd] at hx hxn htk
          have hci : (c : Int) < (n : Int) := by omega
          obtain ⟨_, _, _, c3, _⟩ := hcs2.cells
          obtain ⟨g0, hp, hlt2, hcl⟩ := hcs2.way (a := 2) (by omega) hxn
          have HST := Lib.hid (Bits.set_any (k.rb 2 c) (k.rg 2 c) n (lostV n V v (cs.take i) 2 c) (v : Int) false _ (hcs2.row 2 (by omega) c hxn))
          have HJJ := Lib.hid (And.intro hcs2 (And.intro hLV (And.intro hfr htk)))
          have HXN := Lib.hid hxn
          rw [hp] at c3
          clear hcs2 hLV hfr hcx hxn htk hcd hp HJ
          go_wp2_with fail
          refine HST.out.mono ?_
          rintro e wa ⟨rfl, hra, hga⟩
          have HUA : Hid (CS B k n wa f (lostV n V v (cs.take (i + 1))) (some (lb, lg, LVi)) m ∧ Fr (fun g => g = lg ∨ ∃ a i, a < 3 ∧ i < n ∧ g = k.rg a i) wC wa) := Lib.hid (by
            obtain ⟨h1, h3, h4, h5⟩ := HJJ.out
            have hc1 := h1.turn (a := 2) (by omega) HXN.out hra hga
            rw [lostV_succ HV.out, ← h5] at hc1
            exact ⟨hc1, h4.trans (F' := fun g => g = k.rg 2 c) (Fr.of_grown hga (fun z hz => by injection hz with hz; exact hz.symm)) (fun g _ e => .inr ⟨2, c, by omega, HXN.out, e⟩)⟩)
          have hcA := HUA.out.1
          obtain ⟨_, _, _, _, c4⟩ := hcA.cells
          have c4' : wa.cell? ⟨k.b, 4, none⟩ = some (.pointer (some ⟨lb, 0, none⟩)) := c4
          have HSL := Lib.hid (Bits.set_any lb lg n LVi (c : Int) true wa (hcA.lst _ rfl).1)
          clear hra hga HST hcA c4 c3 hlt2 hcl
          go_wp2_with fail
          refine HSL.out.mono ?_
          rintro e wb ⟨rfl, hrb, hgb⟩
          have HN5 : Hid (B2 B k n m lb lg LV f V v (cs.take (i + 1)) wC wb) := Lib.hid (by
            obtain ⟨h1, h4⟩ := HUA.out
            have h3 := HJJ.out.2.1
            refine ⟨_, h1.tell hrb hgb, fun x hx => ?_, h4.trans (F' := fun g => g = lg) (Fr.of_grown hgb (fun z hz => by injection hz with hz; exact hz.symm)) (fun g _ e => .inl e)⟩
            rw [setV_bit HXN.out, HJJ.out.2.2.2]
            by_cases e : x = c
            · rw [if_pos e]; simp [e]
            · rw [if_neg e, h3 x hx]; simp [e])
          clear hrb hgb HSL HUA HJJ c4'
          go_wp2_with fail
          go_roundw
          case rel => exact ⟨i + 1, by go_num, hlt, HN5⟩
          case measure => simp [intOf]; omega
        · have e : K = i := by omega
          have HRES : Hid (∀ W', B2 B k n m lb lg LV f V v (cs.take i) wC W' → LoseP B k n m lb lg LV f V S v w (.returned (.tuple #[])) W') := Lib.hid fun W' hB => by
            obtain ⟨LV', h1, h3, h4⟩ := hB
            rw [← e, HKK.out, List.take_length] at h1 h3
            exact ⟨A, X, o, cs, LV', rfl, HA.out.1, HA.out.2, by rw [← HPS.out]; exact HDD.out, HMEM.out, h1, h3, (Fr.of_below (F := fun g => g = lg ∨ ∃ a i, a < 3 ∧ i < n ∧ g = k.rg a i) HBC.out).trans h4 (fun _ _ e => e)⟩
          have HR := Lib.hid (HRES.out _ HJ.out)
          clear HJ e HRES
          go_wp2
          exact bodyPost_end (results_none rfl _ _ _) rfl HR.out
end Go.Proofs.YtakgepdlninnhaaDoor.Cs
namespace Go.Proofs.YtakgepdlninnhaaDoor.Cs
open Df Cl
variable {n : Nat} {E : Nat → Nat → Prop} {V : Nat → Nat → Nat} {u v : Nat}
/-- The rows of the component, and of those ahead for the nodes of D, are right. -/
structure Mid (n : Nat) (E : Nat → Nat → Prop) (u v : Nat) (D : Nat → Prop) (V : Nat → Nat → Nat) : Prop where
  arc : E u v
  lt : ∀ a b, E a b → a < n ∧ b < n
  next : ∀ x, x < n → ∀ y, y < n → ((V 0 x).testBit y = true ↔ Less E u v x y)
  prev : ∀ x, x < n → ∀ y, y < n → ((V 1 y).testBit x = true ↔ Less E u v x y)
  done : ∀ x, x < n → ∀ y, y < n → (Co E u v x ∨ (Rs E x u ∧ D y)) → ((V 2 x).testBit y = true ↔ Rs (Less E u v) x y)
  todo : ∀ x, x < n → ∀ y, y < n → ¬ (Co E u v x ∨ (Rs E x u ∧ D y)) → ((V 2 x).testBit y = true ↔ Rs E x y)
theorem Mid.more {D : Nat → Prop} (h : Mid n E u v D V) {x y : Nat} (hx : x < n) (hy : y < n) (k : Rs (Less E u v) x y) : (V 2 x).testBit y = true := by
  by_cases e : Co E u v x ∨ (Rs E x u ∧ D y)
  · exact (h.done x hx y hy e).2 k
  · exact (h.todo x hx y hy e).2 (less_sub k)
theorem mid_start (h : Going n E u v V) {o : List Nat} (ho : ∀ x, x ∈ o ↔ Co E u v x) {X : Nat} (hX : SetX n V o X) : Mid n E u v (fun _ => False) (cutV V X o) := by
  refine ⟨h.arc, h.lt, fun x hx y hy => ?_, fun x hx y hy => ?_, fun x hx y hy e => ?_, fun x hx y hy e => ?_⟩
  · have : cutV V X o 0 x = V 0 x := by unfold cutV; rw [if_neg (fun e => by omega)]
    rw [this]; exact h.next x hx y hy
  · have : cutV V X o 1 y = V 1 y := by unfold cutV; rw [if_neg (fun e => by omega)]
    rw [this]; exact h.prev x hx y hy
  · rcases e with e | ⟨_, e⟩
    · rw [co_cut h ho hX hx hy, if_pos ((ho x).2 e)]
    · exact e.elim
  · rw [co_cut h ho hX hx hy, if_neg (fun k => e (.inl ((ho x).1 k)))]
theorem arcs_iff {D : Nat → Prop} (h : Mid n E u v D V) {a b : Nat} (ha : a < n) : Arcs (nxl n (V 0)) a b ↔ Less E u v a b := by
  unfold Arcs
  rw [mem_nxl]
  constructor
  · rintro ⟨h1, h2⟩
    exact (h.next a ha b h1).1 h2
  · intro k
    have := (h.lt _ _ k.1).2
    exact ⟨this, (h.next a ha b this).2 k⟩
theorem rsA_iff {D : Nat → Prop} (h : Mid n E u v D V) {a b : Nat} (ha : a < n) : Rs (Arcs (nxl n (V 0))) a b ↔ Rs (Less E u v) a b := by
  constructor
  · intro k
    have : Rs (Less E u v) a b ∧ b < n := by
      induction k with
      | arc e =>
        have e2 := (arcs_iff h ha).1 e
        exact ⟨.arc e2, (h.lt _ _ e2.1).2⟩
      | tail _ e ih =>
        have e2 := (arcs_iff h ih.2).1 e
        exact ⟨ih.1.tail e2, (h.lt _ _ e2.1).2⟩
    exact this.1
  · intro k
    induction k with
    | arc e => exact .arc ((arcs_iff h ha).2 e)
    | tail _ e ih => exact ih.tail ((arcs_iff h (h.lt _ _ e.1).1).2 e)
/-- Who is told by the search back. -/
theorem back_iff {D : Nat → Prop} (h : Mid n E u v D V) {b : Nat} (hb : b < n) {A M : Nat → Bool} {o : List Nat} (hA : ∀ y, y < n → (A y = true ↔ (y = b ∨ (V 2 y).testBit b = true))) (hd : Dfs (nxl n (V 1)) (preB (fun x => (V 1 b).testBit x) n) A M o) {x : Nat} : x ∈ o ↔ Rs (Less E u v) x b := by
  have hpv : ∀ a c, a < n → c < n → (c ∈ nxl n (V 1) a ↔ Less E u v c a) := fun a c ha hc => by
    rw [mem_nxl]
    exact ⟨fun k => (h.prev c hc a ha).1 k.2, fun k => ⟨hc, (h.prev c hc a ha).2 k⟩⟩
  have hstart : ∀ c, c ∈ preB (fun x => (V 1 b).testBit x) n ↔ (c < n ∧ Less E u v c b) := fun c => by
    unfold preB
    rw [List.mem_filter, List.mem_range]
    exact ⟨fun ⟨h1, h2⟩ => ⟨h1, (h.prev c h1 b hb).1 h2⟩, fun ⟨h1, h2⟩ => ⟨h1, (h.prev c h1 b hb).2 h2⟩⟩
  rw [hd.iff]
  constructor
  · rintro ⟨m, hm, k⟩
    obtain ⟨hmn, hmb⟩ := (hstart m).1 hm
    have : Rs (Less E u v) x b ∧ x < n := by
      induction k with
      | refl _ => exact ⟨.arc hmb, hmn⟩
      | @tail y z k e hz ih =>
        have hzn := (mem_nxl.1 e).1
        exact ⟨.head ((hpv y z ih.2 hzn).1 e) ih.1, hzn⟩
    exact this.1
  · intro k
    have hAa : ∀ {z : Nat}, Rs (Less E u v) z b → A z = true := fun {z} kz => by
      have hz := (rs_lt (fun p q e => h.lt p q e.1) kz).1
      exact (hA z hz).2 (.inr (h.more hz hb kz))
    have hmem : ∀ {p q : Nat}, Less E u v p q → p ∈ nxl n (V 1) q := fun {p q} e => by
      obtain ⟨h1, h2⟩ := h.lt _ _ e.1
      exact (hpv q p h2 h1).2 e
    have key : ∀ {c : Nat}, Rs (Less E u v) x c → Rs (Less E u v) c b → Thr (nxl n (V 1)) A c x := by
      intro c k2
      induction k2 with
      | arc e2 => exact fun m => (Thr.refl (hAa m)).tail (hmem e2) (hAa (.head e2 m))
      | tail k2 e2 ih => exact fun m => Thr.head (hAa m) (hmem e2) (ih (.head e2 m))
    cases k with
    | arc e => exact ⟨x, (hstart x).2 ⟨(h.lt _ _ e.1).1, e⟩, .refl (hAa (.arc e))⟩
    | tail k2 e => exact ⟨_, (hstart _).2 ⟨(h.lt _ _ e.1).1, e⟩, key k2 (.arc e)⟩
/-- One node is taken out of the rows of those that don't reach it any more. -/
theorem mid_lose {D : Nat → Prop} (h : Mid n E u v D V) {S b : Nat} (hb : b < n) (hbv : b = v ∨ Rs E v b) (hS : ∀ x, x < n → (S.testBit x = true ↔ (Rs E x u ∧ ¬ Co E u v x))) {A X : Nat} {o cs : List Nat}
    (hA : ∀ x, x < n → A.testBit x = (decide (x = b) || (V 2 x).testBit b)) (hDb : ¬ D b) (hd : Dfs (nxl n (V 1)) (preB (fun x => (V 1 b).testBit x) n) (fun x => A.testBit x) (fun x => X.testBit x) o) (hcs : ∀ x, x ∈ cs ↔ (x < n ∧ S.testBit x = true ∧ X.testBit x = true)) :
    Mid n E u v (fun y => D y ∨ y = b) (lostV n V b cs) ∧ ∀ x, x < n → (x ∈ cs → (V 2 x).testBit b = true ∧ (lostV n V b cs 2 x).testBit b = false) := by
  have hA2 : ∀ y, y < n → (A.testBit y = true ↔ (y = b ∨ (V 2 y).testBit b = true)) := fun y hy => by rw [hA y hy, Bool.or_eq_true, decide_eq_true_eq]
  have hback := fun x (_ : x < n) => back_iff h hb (A := fun x => A.testBit x) hA2 hd (x := x)
  have htold := hd.told.2
  have hX : ∀ x, x < n → (X.testBit x = true ↔ (A.testBit x = true ∧ ¬ Rs (Less E u v) x b)) := fun x hx => by
    have h1 := htold x
    have h2 := hback x hx
    constructor
    · intro k
      exact ⟨hd.sub x k, fun k2 => by have := (h1.1 (h2.2 k2)).2; rw [k] at this; cases this⟩
    · rintro ⟨k1, k2⟩
      cases e : X.testBit x with
      | true => rfl
      | false => exact absurd (h2.1 (h1.2 ⟨k1, e⟩)) k2
  have hrow : ∀ x, x < n → ∀ y, y < n → ((lostV n V b cs 2 x).testBit y = true ↔ ((V 2 x).testBit y = true ∧ ¬ (x ∈ cs ∧ y = b))) := fun x hx y hy => by
    unfold lostV
    by_cases hm : x ∈ cs
    · rw [if_pos ⟨rfl, hm⟩, setV_bit hb]
      by_cases e : y = b
      · simp [e, hm]
      · simp [e]
    · rw [if_neg (fun k => hm k.2)]
      simp [hm]
  have ha : ∀ a, a ≠ 2 → ∀ x, lostV n V b cs a x = V a x := fun a ha x => by unfold lostV; rw [if_neg (fun k => ha k.1)]
  refine ⟨⟨h.arc, h.lt, fun x hx y hy => by rw [ha 0 (by decide)]; exact h.next x hx y hy, fun x hx y hy => by rw [ha 1 (by decide)]; exact h.prev x hx y hy, fun x hx y hy e => ?_, fun x hx y hy e => ?_⟩, fun x hx hm => ?_⟩
  · rw [hrow x hx y hy]
    by_cases e0 : Co E u v x ∨ (Rs E x u ∧ D y)
    · rw [h.done x hx y hy e0]
      refine ⟨fun k => k.1, fun k => ⟨k, fun ⟨hm, hyb⟩ => ?_⟩⟩
      have := ((hX x hx).1 ((hcs x).1 hm).2.2).2
      rw [hyb] at k
      exact this k
    · have hnc : ¬ Co E u v x := fun k => e0 (.inl k)
      obtain ⟨hxu, hyb⟩ : Rs E x u ∧ y = b := by
        rcases e with e | ⟨e1, e2 | e2⟩
        · exact absurd e hnc
        · exact absurd (.inr ⟨e1, e2⟩) e0
        · exact ⟨e1, e2⟩
      subst hyb
      constructor
      · rintro ⟨k1, k2⟩
        apply Classical.byContradiction
        intro hno
        refine k2 ⟨(hcs x).2 ⟨hx, (hS x hx).2 ⟨hxu, hnc⟩, (hX x hx).2 ⟨(hA2 x hx).2 (.inr k1), hno⟩⟩, rfl⟩
      · intro k
        refine ⟨h.more hx hy k, fun ⟨hm, _⟩ => ?_⟩
        exact ((hX x hx).1 ((hcs x).1 hm).2.2).2 k
  · have e0 : ¬ (Co E u v x ∨ (Rs E x u ∧ D y)) := fun k => e (k.imp id fun k => ⟨k.1, .inl k.2⟩)
    rw [hrow x hx y hy, h.todo x hx y hy e0]
    refine ⟨fun k => k.1, fun k => ⟨k, fun ⟨hm, hyb⟩ => e (.inr ⟨?_, .inr hyb⟩)⟩⟩
    exact ((hS x hx).1 ((hcs x).1 hm).2.1).1
  · have hm2 := (hcs x).1 hm
    obtain ⟨hxu, hnc⟩ := (hS x hx).1 hm2.2.1
    obtain ⟨k1, k2⟩ := (hX x hx).1 hm2.2.2
    refine ⟨?_, ?_⟩
    · rcases (hA2 x hx).1 k1 with rfl | k
      · by_cases e0 : Co E u v x ∨ (Rs E x u ∧ D x)
        · exfalso
          rcases e0 with e0 | ⟨_, e0⟩
          · exact hnc e0
          · exact hDb e0
        · exact (h.todo x hx x hx e0).2 (lost_round h.arc hbv (.inr hxu))
      · exact k
    · cases e : (lostV n V b cs 2 x).testBit b with
      | false => rfl
      | true => exact absurd ⟨hm, rfl⟩ ((hrow x hx b hb).1 e).2
/-- When all that are lost were looked at, all rows are right. -/
theorem mid_end {D : Nat → Prop} (h : Mid n E u v D V) (hD : ∀ y, (y = v ∨ Rs E v y) → D y) {x y : Nat} (hx : x < n) (hy : y < n) : (V 2 x).testBit y = true ↔ Rs (Less E u v) x y := by
  by_cases e : Co E u v x ∨ (Rs E x u ∧ D y)
  · exact h.done x hx y hy e
  · rw [h.todo x hx y hy e]
    by_cases hy2 : y = v ∨ Rs E v y
    · have hxu : ¬ (x = u ∨ Rs E x u) := fun k => by
        rcases k with rfl | k
        · exact e (.inl (.inl rfl))
        · exact e (.inr ⟨k, hD y hy2⟩)
      exact less_other h.arc hxu
    · exact less_far h.arc hy2
/-- Where the end of the arc is of the component, or is reached from its start still, nothing else changes. -/
theorem going_same (h : Going n E u v V) (k : Rs (Less E u v) u v) {x y : Nat} : Rs E x y ↔ Rs (Less E u v) x y := less_same h.arc k
theorem mid_same {D : Nat → Prop} (h : Mid n E u v D V) (k : Rs (Less E u v) u v) {x y : Nat} (hx : x < n) (hy : y < n) : (V 2 x).testBit y = true ↔ Rs (Less E u v) x y := by
  by_cases e : Co E u v x ∨ (Rs E x u ∧ D y)
  · exact h.done x hx y hy e
  · rw [h.todo x hx y hy e]
    exact less_same h.arc k
end Go.Proofs.YtakgepdlninnhaaDoor.Cs
namespace Go.Proofs.YtakgepdlninnhaaDoor.Cs
open Go.ChangeShapes Go.WideShapes Go.ChangeAt Go.RowKit Base F Bits Df
variable {B n m lb lg LV : Nat} {k : CB} {w W W0 W' : World} {f : Int × Int → Int} {V : Nat → Nat → Nat} {la : La} {E : Nat → Nat → Prop} {u v : Nat}
/-- Rows are made less; and whose, is told. -/
def Shr (n : Nat) (V V' : Nat → Nat → Nat) (LV LV' : Nat) : Prop :=
  (∀ x, x < n → ∀ y, y < n → (V' 2 x).testBit y = true → (V 2 x).testBit y = true) ∧ ∀ x, x < n → (LV'.testBit x = true ↔ (LV.testBit x = true ∨ ∃ y, y < n ∧ (V 2 x).testBit y = true ∧ (V' 2 x).testBit y = false))
theorem Shr.refl (n : Nat) (V : Nat → Nat → Nat) (LV : Nat) : Shr n V V LV LV := ⟨fun _ _ _ _ h => h, fun x _ => ⟨.inl, fun h => h.elim id fun ⟨y, _, h1, h2⟩ => by rw [h1] at h2; cases h2⟩⟩
theorem Shr.trans {V1 V2 : Nat → Nat → Nat} {L1 L2 : Nat} (h : Shr n V V1 LV L1) (k : Shr n V1 V2 L1 L2) : Shr n V V2 LV L2 := by
  refine ⟨fun x hx y hy e => h.1 x hx y hy (k.1 x hx y hy e), fun x hx => ?_⟩
  rw [k.2 x hx, h.2 x hx]
  constructor
  · rintro ((h1 | ⟨y, hy, h1, h2⟩) | ⟨y, hy, h1, h2⟩)
    · exact .inl h1
    · refine .inr ⟨y, hy, h1, ?_⟩
      cases e : (V2 2 x).testBit y with
      | false => rfl
      | true => have := k.1 x hx y hy e; rw [h2] at this; cases this
    · exact .inr ⟨y, hy, h.1 x hx y hy h1, h2⟩
  · rintro (h1 | ⟨y, hy, h1, h2⟩)
    · exact .inl (.inl h1)
    · cases e : (V1 2 x).testBit y with
      | false => exact .inl (.inr ⟨y, hy, h1, e⟩)
      | true => exact .inr ⟨y, hy, e, h2⟩
theorem shr_cut {X L1 L2 : Nat} {o : List Nat} (hV : ∀ x, x < n → V 2 x < 2 ^ n) (h : ∀ x, x < n → L2.testBit x = (L1.testBit x || toldB V X o x)) : Shr n V (cutV V X o) L1 L2 := by
  refine ⟨fun x hx y hy e => ?_, fun x hx => ?_⟩
  · unfold cutV at e
    split at e
    · rw [Nat.testBit_and, Bool.and_eq_true] at e; exact e.1
    · exact e
  · rw [h x hx, Bool.or_eq_true]
    unfold toldB
    rw [Bool.and_eq_true, decide_eq_true_eq, decide_eq_true_eq]
    refine or_congr Iff.rfl ?_
    constructor
    · rintro ⟨hm, hne⟩
      apply Classical.byContradiction
      intro hno
      refine hne (Nat.eq_of_testBit_eq fun y => ?_)
      rw [Nat.testBit_and]
      cases e : (V 2 x).testBit y with
      | false => rfl
      | true =>
        have hy := bit_lt (hV x hx) e
        cases e2 : X.testBit y with
        | true => rfl
        | false =>
          refine absurd ⟨y, hy, e, ?_⟩ hno
          unfold cutV
          rw [if_pos ⟨rfl, hm⟩, Nat.testBit_and, e2, Bool.and_false]
    · rintro ⟨y, hy, h1, h2⟩
      unfold cutV at h2
      by_cases hm : x ∈ o
      · refine ⟨hm, fun e => ?_⟩
        rw [if_pos ⟨rfl, hm⟩, e, h1] at h2
        cases h2
      · rw [if_neg (fun e => hm e.2), h1] at h2
        cases h2
theorem shr_lost {L1 L2 b : Nat} {cs : List Nat} (hb : b < n) (h : ∀ x, x < n → L2.testBit x = (L1.testBit x || decide (x ∈ cs))) (hl : ∀ x, x < n → (x ∈ cs → (V 2 x).testBit b = true ∧ (lostV n V b cs 2 x).testBit b = false)) : Shr n V (lostV n V b cs) L1 L2 := by
  refine ⟨fun x hx y hy e => ?_, fun x hx => ?_⟩
  · unfold lostV at e
    split at e
    · rw [setV_bit hb] at e
      split at e
      · cases e
      · exact e
    · exact e
  · rw [h x hx, Bool.or_eq_true, decide_eq_true_eq]
    refine or_congr Iff.rfl ?_
    constructor
    · intro hm
      exact ⟨b, hb, (hl x hx hm).1, (hl x hx hm).2⟩
    · rintro ⟨y, hy, h1, h2⟩
      apply Classical.byContradiction
      intro hm
      unfold lostV at h2
      rw [if_neg (fun e => hm e.2), h1] at h2
      cases h2
theorem nodup_le : ∀ {n : Nat} {l : List Nat}, l.Nodup → (∀ x ∈ l, x < n) → l.length ≤ n := by
  intro n
  induction n with
  | zero =>
    intro l _ h
    cases l with
    | nil => simp
    | cons a l => exact absurd (h a List.mem_cons_self) (Nat.not_lt_zero _)
  | succ n ih =>
    intro l hd h
    have h1 := ih (l := l.erase n) (hd.erase n) (fun x hx => by
      have h2 := h x (List.mem_of_mem_erase hx)
      have h3 : x ≠ n := fun e => by rw [e] at hx; exact (List.Nodup.not_mem_erase hd) hx
      omega)
    by_cases hm : n ∈ l
    · rw [List.length_erase_of_mem hm] at h1; omega
    · rw [List.erase_of_not_mem hm] at h1; omega
/-- The rows of arcs know that one goes. -/
theorem going_arc (hE : E u v) (hlt : ∀ a b, E a b → a < n ∧ b < n) (h0 : ∀ x, x < n → ∀ y, y < n → ((V 0 x).testBit y = true ↔ E x y)) (h1 : ∀ x, x < n → ∀ y, y < n → ((V 1 y).testBit x = true ↔ E x y)) (h2 : ∀ x, x < n → ∀ y, y < n → ((V 2 x).testBit y = true ↔ Cl.Rs E x y)) : Going n E u v (arcV n V u v false) := by
  obtain ⟨hu, hv⟩ := hlt _ _ hE
  refine ⟨hE, hlt, fun x hx y hy => ?_, fun x hx y hy => ?_, fun x hx y hy => by rw [arcV_two]; exact h2 x hx y hy⟩
  · unfold arcV
    rw [upV_ne _ _ (by omega)]
    unfold Cl.Less
    by_cases e : x = u
    · subst e
      rw [upV_at, setV_bit hv]
      by_cases e2 : y = v
      · simp [e2]
      · rw [if_neg e2, h0 x hx y hy]; simp [e2]
    · rw [upV_ne _ _ (by omega), h0 x hx y hy]
      simp [e]
  · unfold arcV
    unfold Cl.Less
    by_cases e : y = v
    · subst e
      rw [upV_at, setV_bit hu]
      by_cases e2 : x = u
      · simp [e2]
      · rw [if_neg e2, h1 x hx y hy]; simp [e2]
    · rw [upV_ne _ _ (by omega), upV_ne _ _ (by omega), h1 x hx y hy]
      simp [e]
end Go.Proofs.YtakgepdlninnhaaDoor.Cs
namespace Go.Proofs.YtakgepdlninnhaaDoor.Cs
open Go.ChangeShapes Go.WideShapes Go.ChangeAt Go.RowKit Base F Bits Df Cl
variable {B n m lb lg LV : Nat} {k : CB} {w W W0 W' : World} {f : Int × Int → Int} {V : Nat → Nat → Nat} {la : La} {E : Nat → Nat → Prop} {u v : Nat}
/-- What unlink, or renew, leaves: all rows are right, and who was changed is told. -/
def UnP (B : Nat) (k : CB) (n m lb lg LV : Nat) (f : Int × Int → Int) (E : Nat → Nat → Prop) (u v : Nat) (V : Nat → Nat → Nat) (W : World) (e : Ending) (W' : World) : Prop :=
  ∃ V' LV', e = .returned (.tuple #[]) ∧ CS B k n W' f V' (some (lb, lg, LV')) m ∧ (∀ x, x < n → ∀ y, y < n → ((V' 0 x).testBit y = true ↔ Less E u v x y)) ∧ (∀ x, x < n → ∀ y, y < n → ((V' 1 y).testBit x = true ↔ Less E u v x y)) ∧ (∀ x, x < n → ∀ y, y < n → ((V' 2 x).testBit y = true ↔ Rs (Less E u v) x y)) ∧ Shr n V V' LV LV' ∧ Fr (fun g => g = lg ∨ ∃ a i, a < 3 ∧ i < n ∧ g = k.rg a i) W W'
def RenC (B : Nat) (k : CB) (n m lb lg : Nat) (f : Int × Int → Int) (E : Nat → Nat → Prop) (u v : Nat) : Prop :=
  ∀ (W : World) (V : Nat → Nat → Nat) (LV bs gs S : Nat), CS B k n W f V (some (lb, lg, LV)) m → TabW W → RowAt W bs gs n S → (∀ a, a < 3 → ∀ i, i < n → k.rg a i ≠ gs) → lg ≠ gs → Mid n E u v (fun _ => False) V → ¬ Rs (Less E u v) u v → (∀ x, x < n → (S.testBit x = true ↔ (Rs E x u ∧ ¬ Co E u v x))) →
    Calls Tryd.prog 49 #[.pointer (some ⟨k.b, 0, none⟩), .pointer (some ⟨bs, 0, none⟩)] W (UnP B k n m lb lg LV f E u v V W)
theorem mid_behind {D : Nat → Prop} (h : Mid n E u v D V) (hv : v < n) {y : Nat} (hy : y < n) : (y = v ∨ (V 2 v).testBit y = true) ↔ (y = v ∨ Rs E v y) := by
  by_cases e : Co E u v v ∨ (Rs E v u ∧ D y)
  · rw [h.done v hv y hy e]
    exact less_behind h.arc
  · rw [h.todo v hv y hy e]
/-- Where unlink's loop stands. -/
def UNL (B : Nat) (k : CB) (n m lb lg LV : Nat) (f : Int × Int → Int) (E : Nat → Nat → Prop) (u v : Nat) (V : Nat → Nat → Nat) (ds : List Nat) (w wr : World) : Prop :=
  ∃ Vi Li, CS B k n wr f Vi (some (lb, lg, Li)) m ∧ Mid n E u v (fun y => y ∈ ds) Vi ∧ Shr n V Vi LV Li ∧ Fr (fun g => g = lg ∨ ∃ a i, a < 3 ∧ i < n ∧ g = k.rg a i) w wr
theorem own_same {b : Nat} {v : Value} {zs : List Int} (h : Lst.OwnI b W v zs) (hb : ∀ g, b ≤ g → g < W.heap.size → W'.heap[g]? = W.heap[g]?) : Lst.OwnI b W' v zs := by
  obtain ⟨h1, h2⟩ := h
  refine ⟨h1, ?_⟩
  rcases h2 with h2 | ⟨g, cap, cur, hv, hB, hg, h3⟩
  · exact .inl h2
  · exact .inr ⟨g, cap, cur, hv, hB, (hb g hB (heap_lt hg)).trans hg, h3⟩
theorem contains_own {Bc x : Nat} {v : Value} {cs : List Nat} (h : Lst.OwnI Bc W v (natI cs)) (hl : cs.length ≤ 4096) :
    Calls Tryd.prog 44 #[v, .int .i64 (x : Int)] W fun e w' => e = .returned (.bool (decide (x ∈ cs))) ∧ W = w' := by
  obtain ⟨p, c, rfl, hc⟩ := own_cell h (by omega)
  by_cases h0 : cs.length = 0
  · have : cs = [] := List.length_eq_zero_iff.1 h0
    subst this
    exact (Tryd.slices_Contains_int_empty p c (x : Int) W).mono fun e w' ⟨h1, h2⟩ => ⟨by rw [h1]; simp, h2.symm⟩
  · obtain ⟨g, o, rfl, _⟩ := hc 0 (by omega)
    have hlen : (natI cs).length = cs.length := natI_len _
    refine (Tryd.slices_Contains_int g o cs.length c (natI cs) (x : Int) W (by omega) (by omega) (fun j hj => ?_)).mono fun e w' ⟨h1, h2⟩ => ⟨?_, h2.symm⟩
    · obtain ⟨g', o', he, hcell⟩ := hc j (by omega)
      injection he with he
      injection he with he1 he2
      subst he1
      subst he2
      rw [hcell W (fun _ _ => rfl)]
      unfold natI
      rw [List.getD_eq_getElem?_getD, List.getD_eq_getElem?_getD, List.getElem?_map]
      cases cs[j]? <;> rfl
    · rw [h1, ← hlen, List.take_length]
      congr 2
      rw [Bool.eq_iff_iff, List.contains_iff_mem, decide_eq_true_eq]
      unfold natI
      rw [List.mem_map]
      constructor
      · rintro ⟨a, ha, e⟩
        have e' : (a : Int) = (x : Int) := e
        have : a = x := by omega
        rw [← this]
        exact ha
      · exact fun hx => ⟨x, hx, rfl⟩
set_option maxRecDepth 100000 in
set_option maxHeartbeats 8000000 in
theorem unlink_any (HREN : RenC B k n m lb lg f E u v) (h : CS B k n w f V (some (lb, lg, LV)) m) (hT : TabW w) (hTB : 0 < B) (hg : Going n E u v (arcV n V u v false)) :
    Calls Tryd.prog 31 #[.pointer (some ⟨k.b, 0, none⟩), .int .i64 (u : Int), .int .i64 (v : Int)] w (UnP B k n m lb lg LV f E u v V w) := by
  obtain ⟨hu, hv⟩ := hg.lt _ _ hg.arc
  have hn4 : (n : Int) ≤ 4096 := by have := h.hn; omega
  have hui : (u : Int) < (n : Int) := by omega
  have hvi : (v : Int) < (n : Int) := by omega
  obtain ⟨_, c1, _, _, _⟩ := h.cells
  obtain ⟨g0, hp, hlt, hcl⟩ := h.way (a := 0) (by omega) hu
  have HS1 := Lib.hid (Bits.set_any (k.rb 0 u) (k.rg 0 u) n (V 0 u) (v : Int) false w (h.row 0 (by omega) u hu))
  have HRE := Lib.hid HREN
  have HC := Lib.hid h
  have HT := Lib.hid hT
  have HTB := Lib.hid hTB
  have HGO := Lib.hid hg
  have HU := Lib.hid hu
  have HV := Lib.hid hv
  rw [hp] at c1
  clear h hT hTB hp hu hv hg HREN
  go_enter Tryd.func31, Tryd.ntmps31
  go_wp2_with fail
  refine HS1.out.mono ?_
  rintro e w1 ⟨rfl, hr1, hg1⟩
  have h1 := HC.out.turn (a := 0) (by omega) HU.out hr1 hg1
  have HF1 : Hid (Fr (fun g => g = lg ∨ ∃ a i, a < 3 ∧ i < n ∧ g = k.rg a i) w w1) := Lib.hid (Fr.of_grown hg1 (fun z hz => by injection hz with hz; exact .inr ⟨0, u, by omega, HU.out, hz.symm⟩))
  obtain ⟨_, _, c2, _, _⟩ := h1.cells
  obtain ⟨g1, hp, hlt, hcl⟩ := h1.way (a := 1) (by omega) HV.out
  have hr2 := h1.row 1 (by omega) v HV.out
  rw [upV_ne _ _ (by omega)] at hr2
  have HS2 := Lib.hid (Bits.set_any (k.rb 1 v) (k.rg 1 v) n (V 1 v) (u : Int) false w1 hr2)
  have HC1 := Lib.hid h1
  rw [hp] at c2
  clear hr1 hg1 h1 hp hr2 HS1 c1
  go_wp2_with fail
  refine HS2.out.mono ?_
  rintro e w2 ⟨rfl, hr2, hg2⟩
  have HC2 : Hid (CS B k n w2 f (arcV n V u v false) (some (lb, lg, LV)) m) := Lib.hid (HC1.out.turn (a := 1) (by omega) HV.out hr2 hg2)
  have HF2 : Hid (Fr (fun g => g = lg ∨ ∃ a i, a < 3 ∧ i < n ∧ g = k.rg a i) w w2) := Lib.hid (HF1.out.trans (F' := fun g => g = k.rg 1 v) (Fr.of_grown hg2 (fun z hz => by injection hz with hz; exact hz.symm)) (fun g _ e => .inr ⟨1, v, by omega, HV.out, e⟩))
  have ht2 : TabW w2 := HT.out.fr HF2.out (fun e => by
    have hB := HTB.out
    rcases e with e | ⟨a, i, ha, hi, e⟩
    · have h9 : B ≤ lg := (HC.out.lst _ rfl).2.1
      omega
    · have := HC.out.ge.2.2 a ha i hi
      omega)
  have HT2 := Lib.hid ht2
  have HAH := Lib.hid (ahead_any HC2.out HU.out)
  clear hr2 hg2 ht2 HS2 HC1 HF1 c2
  go_wp2_with fail
  refine HAH.out.mono ?_
  rintro e w3 ⟨bA, gA, A, rfl, hrA, hA, hb3, _, hgA⟩
  have H3 : Hid (RowAt w3 bA gA n A ∧ Below w2.heap.size w2 w3 ∧ w2.heap.size ≤ gA) := Lib.hid ⟨hrA, hb3, hgA⟩
  have HGA : Hid (lg ≠ gA ∧ (∀ a, a < 3 → ∀ i, i < n → k.rg a i ≠ gA) ∧ B ≤ gA ∧ w.heap.size ≤ gA) := Lib.hid ⟨by
    have h9 : lg < w2.heap.size := heap_lt (HC2.out.lst _ rfl).1.2.1
    omega, fun a ha i hi => by have := heap_lt (HC2.out.row a ha i hi).2.1; omega, by have := HC2.out.size; omega, by have := HF2.out.size; omega⟩
  have HAB : Hid (∀ x, x < n → (A.testBit x = true ↔ (x = u ∨ Rs E x u))) := Lib.hid fun x hx => by
    rw [hA x hx]
    show (decide (x = u) || (arcV n V u v false 2 x).testBit u) = true ↔ _
    rw [Bool.or_eq_true, decide_eq_true_eq, HGO.out.rows x hx u HU.out]
  have HON := Lib.hid (onward_any (k := k) hrA)
  clear hrA hA hb3 hgA HAH
  go_wp2_with fail
  refine HON.out.mono ?_
  rintro e w4 ⟨bl, gl, cg, rfl, hrl, hcg, hb4, hgl⟩
  have hb24 : Below w2.heap.size w2 w4 := H3.out.2.1.trans (hb4.mono H3.out.2.1.size)
  have H4 : Hid (RowAt w4 bl gl n A ∧ RowAt w4 bA gA n A ∧ Below w2.heap.size w2 w4 ∧ w2.heap.size ≤ gl ∧ gA < gl) := Lib.hid ⟨hrl, H3.out.1.below hb4, hb24, by have := H3.out.2.1.size; omega, by have := heap_lt H3.out.1.2.1; omega⟩
  have HC4 := Lib.hid (HC2.out.below hb24)
  have HBLK : Hid (lg < w4.heap.size ∧ ∀ a, a < 3 → ∀ i, i < n → k.rg a i < w4.heap.size) := Lib.hid ⟨heap_lt (HC4.out.lst _ rfl).1.2.1, fun a ha i hi => heap_lt (HC4.out.row a ha i hi).2.1⟩
  have HOU : Hid (Out k n (some (lb, lg, LV)) w4 gl) := Lib.hid (Out.new HC2.out H4.out.2.2.2.1 hrl.2.1)
  have HNX := Lib.hid (nxF_onward HC4.out HOU.out (HT2.out.below hb24) (by have := HT2.out.2; have := H4.out.2.2.2.1; omega) hcg)
  have HFR := Lib.hid (from_any HNX.out (cntB (fun x => A.testBit x) n) w4 A u (.slice none 0 0) [] (Fr.refl _ _) hrl (Lst.OwnI.nil _ _) HU.out (Nat.le_refl _) (by have := cntB_le_n (fun x => A.testBit x) n; have := HC.out.hn; simp; omega))
  unfold fnV at HFR
  unfold fnV
  clear hrl hcg hb4 hgl hb24 HON H3
  go_wp2_with fail
  refine HFR.out.mono ?_
  rintro e w5 ⟨v5, M5, o, rfl, ho5, hr5, hd5, hf5, _⟩
  have hf45 : Fr (fun g => g = gl) w4 w5 := hf5.mono (fun g e => e.elim id fun e => by simp [Value.ownBlock] at e)
  have HO : Hid (∀ x, x ∈ o ↔ Co E u v x) := Lib.hid (co_list HGO.out (fun x => by
    constructor
    · intro hx
      have hxn := bit_lt H4.out.1.2.2.2 hx
      exact ⟨hxn, (HAB.out x hxn).1 hx⟩
    · rintro ⟨hxn, hx⟩
      exact (HAB.out x hxn).2 hx) hd5)
  have HC5 := Lib.hid (HC4.out.fr HOU.out hf45)
  have ho5' : Lst.OwnI w4.heap.size w5 v5 (natI o) := by simpa using ho5
  have HOL : Hid (o.length ≤ 4096) := Lib.hid (by
    have h1 := nodup_le (hd5.told.1) (fun x hx => co_lt HGO.out ((HO.out x).1 hx))
    have := HC.out.hn
    omega)
  have H5 : Hid (Lst.OwnI w4.heap.size w5 v5 (natI o) ∧ RowAt w5 bA gA n A ∧ Fr (fun g => g = lg ∨ ∃ a i, a < 3 ∧ i < n ∧ g = k.rg a i) w w5 ∧ TabW w5) := Lib.hid (by
    have hra := H4.out.2.1
    refine ⟨ho5', hra.keep (hf45.block (heap_lt hra.1) (fun e => (row_ne hra H4.out.1) e)) (hf45.block (heap_lt hra.2.1) (fun e => by have := H4.out.2.2.2.2; omega)), ?_, ?_⟩
    · refine (HF2.out.trans (F' := fun _ => False) (Fr.of_below H4.out.2.2.1) (fun g _ e => e.elim)).trans hf45 (fun g hg e => ?_)
      have := HF2.out.size
      have := H4.out.2.2.2.1
      omega
    · exact (HT2.out.below H4.out.2.2.1).fr hf45 (fun e => by have := HT2.out.2; have := H4.out.2.2.2.1; omega))
  clear ho5 ho5' hr5 hd5 hf5 hf45 HFR HNX HOU HC4 HC2 HF2 HT2
  have HCT := Lib.hid (contains_own (x := v) H5.out.1 HOL.out)
  refine (Classical.em ((u : Int) = (v : Int))).elim (fun hne => ?same) (fun hne => ?other)
  case other =>
    go_wp2_with fail
    refine HCT.out.mono ?_
    rintro e _ ⟨rfl, rfl⟩
    by_cases hvo : v ∈ o
    · rw [decide_eq_true hvo]
      have HRES : Hid (UnP B k n m lb lg LV f E u v V w (.returned (.tuple #[])) w5) := Lib.hid (by
        have hcv : Co E u v v := (HO.out v).1 hvo
        have hun : u ≠ v := fun e => hne (by rw [e])
        refine ⟨_, LV, rfl, HC5.out, HGO.out.next, HGO.out.prev, fun x hx y hy => ?_, ?_, H5.out.2.2.1⟩
        · rw [HGO.out.rows x hx y hy]
          exact co_end HGO.out.arc hun hcv
        · have h2 : ∀ x, arcV n V u v false 2 x = V 2 x := arcV_two n V u v false
          have := Shr.refl n (arcV n V u v false) LV
          unfold Shr at this ⊢
          simp only [h2] at this ⊢
          exact this)
      clear HCT
      go_wp2
      exact bodyPost_end (results_none rfl _ _ _) rfl HRES.out
    rw [decide_eq_false hvo]
    go_wp2_with fail
    -- tail
    have HLT : Hid (∀ x ∈ o, x < n) := Lib.hid fun x hx => co_lt HGO.out ((HO.out x).1 hx)
    have HSE := Lib.hid (settle_any HC5.out H5.out.2.2.2 H5.out.1 HLT.out HOL.out)
    refine HSE.out.mono ?_
    rintro e w6 ⟨X, L6, rfl, hX, hC6, hL6, hF6⟩
    have HM6 : Hid (Mid n E u v (fun _ => False) (cutV (arcV n V u v false) X o)) := Lib.hid (mid_start HGO.out HO.out hX)
    have HS6 : Hid (Shr n V (cutV (arcV n V u v false) X o) LV L6) := Lib.hid (by
      have h1 := shr_cut (fun x hx => (HC5.out.row 2 (by omega) x hx).2.2.2) hL6
      unfold Shr at h1 ⊢
      simp only [arcV_two] at h1
      exact h1)
    have HC6 := Lib.hid hC6
    have H6 : Hid (RowAt w6 bA gA n A ∧ Fr (fun g => g = lg ∨ ∃ a i, a < 3 ∧ i < n ∧ g = k.rg a i) w w6 ∧ TabW w6) := Lib.hid (by
      have hra := H5.out.2.1
      refine ⟨hra.keep (hF6.block (heap_lt hra.1) ?_) (hF6.block (heap_lt hra.2.1) ?_), ?_, ?_⟩
      · rintro (e | ⟨i, hi, e⟩)
        · exact row_ne hra (HC5.out.lst _ rfl).1 e
        · exact row_ne hra (HC5.out.row 2 (by omega) i hi) e
      · rintro (e | ⟨i, hi, e⟩)
        · exact HGA.out.1 e.symm
        · exact HGA.out.2.1 2 (by omega) i hi e.symm
      · exact H5.out.2.2.1.trans (F' := fun g => g = lg ∨ ∃ i, i < n ∧ g = k.rg 2 i) hF6 (fun g _ e => e.imp id (fun ⟨i, hi, e⟩ => ⟨2, i, by omega, hi, e⟩))
      · exact H5.out.2.2.2.fr hF6 (fun e => by
          have hB := HTB.out
          rcases e with e | ⟨i, hi, e⟩
          · have h9 : B ≤ lg := (HC5.out.lst _ rfl).2.1
            omega
          · have := HC5.out.ge.2.2 2 (by omega) i hi
            omega))
    have HOW : Hid (Lst.OwnI w4.heap.size w6 v5 (natI o)) := Lib.hid (own_same H5.out.1 fun g hg hlt => hF6.block hlt (by
      rintro (e | ⟨i, hi, e⟩)
      · have := HBLK.out.1
        omega
      · have := HBLK.out.2 2 (by omega) i hi
        omega))
    obtain ⟨_, _, _, c3, _⟩ := hC6.cells
    obtain ⟨g2, hp2, hlt2, hcl2⟩ := hC6.way (a := 2) (by omega) HU.out
    rw [hp2] at c3
    have HH := Lib.hid (has_any (k.rb 2 u) (k.rg 2 u) n (cutV (arcV n V u v false) X o 2 u) (v : Int) w6 (hC6.row 2 (by omega) u HU.out))
    clear hX hC6 hL6 hF6 HSE HC5 H5 hp2 H4
    go_wp2_with fail
    refine HH.out.mono ?_
    rintro e w7 ⟨rfl, hw⟩
    subst hw
    have hhe : hasI n (cutV (arcV n V u v false) X o 2 u) (v : Int) = (cutV (arcV n V u v false) X o 2 u).testBit v := by
      unfold hasI
      have := HV.out
      rw [decide_eq_true (by omega), Bool.true_and]
      simp
    rw [hhe]
    have HHU : Hid ((cutV (arcV n V u v false) X o 2 u).testBit v = true ↔ Rs (Less E u v) u v) := Lib.hid (HM6.out.done u HU.out v HV.out (.inl (.inl rfl)))
    clear hhe HH
    by_cases hh : (cutV (arcV n V u v false) X o 2 u).testBit v = true
    · rw [hh]
      have HRES : Hid (UnP B k n m lb lg LV f E u v V w (.returned (.tuple #[])) w6) := Lib.hid ⟨_, L6, rfl, HC6.out, HM6.out.next, HM6.out.prev, fun x hx y hy => mid_same HM6.out (HHU.out.1 hh) hx hy, HS6.out, H6.out.2.1⟩
      clear c3 hcl2 hh
      go_wp2
      exact bodyPost_end (results_none rfl _ _ _) rfl HRES.out
    have HNR : Hid (¬ Rs (Less E u v) u v) := Lib.hid fun e => hh (HHU.out.2 e)
    rw [Bool.not_eq_true] at hh
    rw [hh]
    clear HHU hh c3 hcl2
    have HND := Lib.hid (nodes_any (n := n) (w := w6) HC6.out.v)
    go_wp2_with fail
    refine HND.out.mono ?_
    rintro e w7 ⟨rfl, hb7⟩
    have HOF : Hid (Calls Tryd.prog 47 #[.int .i64 (n : Int), v5] w7 (RowNew n (ofV n (natI o)) w7)) := Lib.hid (by
      have := of_row (n : Int) w7 ((HOW.out.ints (by rw [natI_len]; have := HOL.out; omega)).below hb7)
      rw [show Bits.rowLen (n : Int) = n by unfold Bits.rowLen; omega] at this
      exact this)
    have HB7 := Lib.hid hb7
    clear hb7 HND HOW
    go_wp2_with fail
    refine HOF.out.mono ?_
    rintro e w8 ⟨bO, gO, rfl, hrO, hb8, _, hgO⟩
    have hb68 : Below w6.heap.size w6 w8 := HB7.out.trans (hb8.mono HB7.out.size)
    have hr8 := H6.out.1.below hb68
    have HC8 := Lib.hid (HC6.out.below hb68)
    have H8 : Hid (RowAt w8 bA gA n A ∧ Below w6.heap.size w6 w8) := Lib.hid ⟨hr8, hb68⟩
    have HMI := Lib.hid (minus_row bA gA n A bO gO n _ w8 hr8 hrO ⟨row_ne hrO hr8, by have := heap_lt H6.out.1.2.1; have := HB7.out.size; omega⟩)
    clear hb68 hr8 hrO hb8 hgO HOF
    go_wp2_with fail
    refine HMI.out.mono ?_
    rintro e w9 ⟨rfl, hr9, hg9⟩
    obtain ⟨S, hS⟩ : ∃ S, S = minusV A (ofV n (natI o)) := ⟨_, rfl⟩
    rw [← hS] at hr9
    have HSS : Hid (∀ x, x < n → (S.testBit x = true ↔ (Rs E x u ∧ ¬ Co E u v x))) := Lib.hid fun x hx => by
      have h1 : (ofV n (natI o)).testBit x = decide (x ∈ o) := by
        unfold ofV
        rw [ofV_bit o 0 HLT.out]
        simp
      rw [hS, minusV_testBit, h1, Bool.and_eq_true, HAB.out x hx, Bool.not_eq_true', decide_eq_false_iff_not, HO.out x]
      constructor
      · rintro ⟨rfl | h2, h3⟩
        · exact absurd (.inl rfl) h3
        · exact ⟨h2, h3⟩
      · rintro ⟨h2, h3⟩
        exact ⟨.inr h2, h3⟩
    have HC9 := Lib.hid (HC8.out.other H8.out.1.2.1 HGA.out.2.1 (fun y hy => by cases hy; exact HGA.out.1) hg9)
    have H9 : Hid (RowAt w9 bA gA n S ∧ Fr (fun g => g = lg ∨ ∃ a i, a < 3 ∧ i < n ∧ g = k.rg a i) w w9 ∧ TabW w9) := Lib.hid (by
      have hf9 : Fr (fun g => g = gA) w8 w9 := Fr.of_grown hg9 (fun z hz => by injection hz with hz; exact hz.symm)
      refine ⟨hr9, ?_, ?_⟩
      · refine (H6.out.2.1.trans (F' := fun _ => False) (Fr.of_below H8.out.2) (fun g _ e => e.elim)).trans hf9 (fun g hg e => ?_)
        have := HGA.out.2.2.2
        omega
      · exact (H6.out.2.2.below H8.out.2).fr hf9 (fun e => by have := HGA.out.2.2.1; have := HTB.out; omega))
    have HBE := Lib.hid (behind_any HC9.out HV.out)
    clear hr9 hg9 hS HMI HC8 HC6 H6 H8 HB7 HO HOL HAB
    go_wp2_with fail
    refine HBE.out.mono ?_
    rintro e w10 ⟨bL, gL, L, rfl, hrL, hL, hbL, _, hgL⟩
    have HC10 := Lib.hid (HC9.out.below hbL)
    have H10 : Hid (RowAt w10 bL gL n L ∧ RowAt w10 bA gA n S ∧ Fr (fun g => g = lg ∨ ∃ a i, a < 3 ∧ i < n ∧ g = k.rg a i) w w10 ∧ TabW w10) := Lib.hid ⟨hrL, H9.out.1.below hbL, H9.out.2.1.trans (F' := fun _ => False) (Fr.of_below hbL) (fun g _ e => e.elim), H9.out.2.2.below hbL⟩
    have HL : Hid (∀ x, x < n → L.testBit x = (decide (x = v) || (cutV (arcV n V u v false) X o 2 v).testBit x)) := Lib.hid hL
    have HCN1 := Lib.hid (count_any bL gL n L w10 hrL)
    have HCN2 := Lib.hid (count_any bA gA n S w10 H10.out.2.1)
    clear hrL hL hbL hgL HBE HC9 H9
    go_wp2_with fail
    refine HCN1.out.mono ?_
    rintro e _ ⟨rfl, hw⟩
    subst hw
    go_wp2_with fail
    refine HCN2.out.mono ?_
    rintro e _ ⟨rfl, hw⟩
    subst hw
    clear HCN1 HCN2
    go_wp2_with fail
    · refine (HRE.out w10 _ L6 bA gA S HC10.out H10.out.2.2.2 H10.out.2.1 HGA.out.2.1 HGA.out.1 HM6.out HNR.out HSS.out).mono ?_
      rintro e w11 ⟨V', LV', rfl, q1, q2, q3, q4, q5, q6⟩
      have HRES : Hid (UnP B k n m lb lg LV f E u v V w (.returned (.tuple #[])) w11) := Lib.hid ⟨V', LV', rfl, q1, q2, q3, q4, HS6.out.trans q5, H10.out.2.2.1.trans q6 (fun g _ e => e)⟩
      clear q1 q2 q3 q4 q5 q6
      go_wp2
      exact bodyPost_end (results_none rfl _ _ _) rfl HRES.out
    have HLI := Lib.hid (rowList_any bL gL n L w10 H10.out.1 H10.out.2.2.2.1 H10.out.2.2.2.2)
    refine HLI.out.mono ?_
    rintro e wC ⟨⟨lv, rfl, hown⟩, hbC⟩
    rw [rowInts_nat] at hown
    obtain ⟨cs, hcs⟩ : ∃ cs, cs = preB (fun x => L.testBit x) n := ⟨_, rfl⟩
    rw [← hcs] at hown
    have HMEM : Hid (∀ x, x ∈ cs ↔ (x < n ∧ L.testBit x = true)) := Lib.hid fun x => by
      rw [hcs]
      unfold preB
      rw [List.mem_filter, List.mem_range]
    have HND : Hid (cs.Nodup) := Lib.hid (by
      rw [hcs]
      unfold preB
      exact List.Pairwise.filter _ List.nodup_range)
    have HBH : Hid (∀ x, x < n → (x ∈ cs ↔ (x = v ∨ Rs E v x))) := Lib.hid fun x hx => by
      rw [HMEM.out x, HL.out x hx, Bool.or_eq_true, decide_eq_true_eq, mid_behind HM6.out HV.out hx]
      exact ⟨fun h => h.2, fun h => ⟨hx, h⟩⟩
    have hcl2 : cs.length ≤ 4096 := by
      rw [hcs]
      have := List.length_filter_le (fun x => L.testBit x) (List.range n)
      rw [List.length_range] at this
      have h3 := HC10.out.hn
      unfold preB
      omega
    have HCC := Lib.hid (HC10.out.below hbC)
    have HRC := Lib.hid (H10.out.2.1.below hbC)
    have HTC := Lib.hid (H10.out.2.2.2.below hbC)
    have HFC : Hid (Fr (fun g => g = lg ∨ ∃ a i, a < 3 ∧ i < n ∧ g = k.rg a i) w wC) := Lib.hid (H10.out.2.2.1.trans (F' := fun _ => False) (Fr.of_below hbC) (fun g _ e => e.elim))
    obtain ⟨pd, cd, hlv, hcell⟩ := own_cell hown (by omega)
    subst hlv
    have HCU : Hid (∀ i, i < cs.length → ∃ g o, pd = some ⟨g, o, none⟩ ∧ (∀ W' : World, Fr (fun g => g = lg ∨ ∃ a i, a < 3 ∧ i < n ∧ g = k.rg a i) wC W' → W'.cell? ⟨g, o + i, none⟩ = some (.int .i64 ((cs.getD i 0 : Nat) : Int))) ∧ cs.getD i 0 < n ∧ cs.getD i 0 ∈ cs ∧ cs.take (i + 1) = cs.take i ++ [cs.getD i 0]) := Lib.hid fun i hi => by
      obtain ⟨g, o, h1, h2⟩ := hcell i hi
      have e : cs.getD i 0 = cs[i] := by simp [List.getD_eq_getElem?_getD, hi]
      refine ⟨g, o, h1, fun W' hW => h2 W' (fun g' hg => hW.block (World.ownsRow.lt hown g' hg).2 (fun hF => ?_)), by rw [e]; exact ((HMEM.out _).1 (List.getElem_mem hi)).1, by rw [e]; exact List.getElem_mem hi, by rw [e, List.take_succ_eq_append_getElem hi]⟩
      rcases hF with e | ⟨a, x, ha, hx, e⟩
      · have := own_ne hown (HCC.out.lst _ rfl).1.2.1 (by decide)
        rw [hg, e] at this
        exact this rfl
      · have := own_ne hown (HCC.out.row a ha x hx).2.1 (by decide)
        rw [hg, e] at this
        exact this rfl
    have HJ0 : Hid (UNL B k n m lb lg LV f E u v V (cs.take 0) w wC) := Lib.hid ⟨_, L6, HCC.out, by simpa using HM6.out, HS6.out, HFC.out⟩
    have HRR : Hid (∀ W', Fr (fun g => g = lg ∨ ∃ a i, a < 3 ∧ i < n ∧ g = k.rg a i) wC W' → RowAt W' bA gA n S ∧ TabW W') := Lib.hid fun W' hW => by
      have hra := HRC.out
      refine ⟨hra.keep (hW.block (heap_lt hra.1) ?_) (hW.block (heap_lt hra.2.1) ?_), HTC.out.fr hW (fun e => ?_)⟩
      · rintro (e | ⟨a, i, ha, hi, e⟩)
        · exact row_ne hra (HCC.out.lst _ rfl).1 e
        · exact row_ne hra (HCC.out.row a ha i hi) e
      · rintro (e | ⟨a, i, ha, hi, e⟩)
        · exact HGA.out.1 e.symm
        · exact HGA.out.2.1 a ha i hi e.symm
      · have hB := HTB.out
        rcases e with e | ⟨a, i, ha, hi, e⟩
        · have h9 : B ≤ lg := (HCC.out.lst _ rfl).2.1
          omega
        · have := HCC.out.ge.2.2 a ha i hi
          omega
    obtain ⟨K, hK⟩ : ∃ K, K = cs.length := ⟨_, rfl⟩
    have HKK := Lib.hid hK
    have hKi : (K : Int) ≤ 4096 := by omega
    rw [← hK] at HCU ⊢
    clear hown hbC hcs hcl2 hcell hK HLI HC10 H10
    go_wp2_with fail
    go_loopw [78] (fun s78 wr => ∃ i : Nat, s78 = .int .i64 (i : Int) ∧ i ≤ K ∧ Hid (UNL B k n m lb lg LV f E u v V (cs.take i) w wr ∧ Fr (fun g => g = lg ∨ ∃ a i, a < 3 ∧ i < n ∧ g = k.rg a i) wC wr)) (fun s78 _ => K - (intOf s78).toNat)
    case atStart => exact ⟨0, rfl, Nat.zero_le _, HJ0.out, Fr.refl _ _⟩
    case round =>
      clear HJ0
      obtain ⟨i, rfl, hi, HJ⟩ := hrel
      by_cases hlt : i < K
      · obtain ⟨g, o2, rfl, hcx, hxn, hxm, htk⟩ := HCU.out i hlt
        obtain ⟨⟨Vi, Li, q1, q2, q3, q4⟩, q5⟩ := HJ.out
        have hx := hcx _ q5
        have hii : (i : Int) < (K : Int) := by omega
        obtain ⟨c, hcd⟩ : ∃ c, c = cs.getD i 0 := ⟨_, rfl⟩
        rw [← hcd] at hx hxn hxm htk
        have hci : (c : Int) < (n : Int) := by omega
        have hnc : ¬ c ∈ cs.take i := by
          have h1 : (cs.take (i + 1)).Nodup := HND.out.sublist (List.take_sublist _ _)
          rw [htk, List.nodup_append] at h1
          exact fun h2 => h1.2.2 c h2 c (by simp) rfl
        have hbv : c = v ∨ Rs E v c := (HBH.out c hxn).1 hxm
        obtain ⟨hrS, htS⟩ := HRR.out _ q5
        have HLO := Lib.hid (lose_any q1 htS HTB.out hrS hxn)
        have HFI := Lib.hid (And.intro (And.intro q3 q4) (And.intro q5 htk))
        have HMI := Lib.hid (fun (A0 X0 : Nat) (o0 cs0 : List Nat) => mid_lose q2 hxn hbv HSS.out (A := A0) (X := X0) (o := o0) (cs := cs0))
        have HXN := Lib.hid hxn
        have HNC := Lib.hid hnc
        clear q1 q2 q3 q4 q5 hcx hxn hxm htk hcd hnc hbv hrS htS HJ
        go_wp2_with fail
        refine HLO.out.mono ?_
        rintro e wa ⟨A0, X0, o0, cs0, L0, rfl, r1, r2, r3, r4, r5, r6, r7⟩
        have HN5 : Hid (UNL B k n m lb lg LV f E u v V (cs.take (i + 1)) w wa ∧ Fr (fun g => g = lg ∨ ∃ a i, a < 3 ∧ i < n ∧ g = k.rg a i) wC wa) := Lib.hid (by
          obtain ⟨⟨h3, h4⟩, h5, h6⟩ := HFI.out
          obtain ⟨h7, h8⟩ := HMI.out A0 X0 o0 cs0 r1 HNC.out r3 r4
          refine ⟨⟨_, L0, r5, ?_, h3.trans (shr_lost HXN.out r6 h8), h4.trans r7 (fun _ _ e => e)⟩, h5.trans r7 (fun _ _ e => e)⟩
          have e : (fun y => y ∈ cs.take (i + 1)) = fun y => y ∈ cs.take i ∨ y = c := by
            funext y
            rw [h6, List.mem_append, List.mem_singleton]
          rw [e]
          exact h7)
        clear r1 r2 r3 r4 r5 r6 r7 HLO HFI HMI HXN HNC
        go_wp2_with fail
        go_roundw
        case rel => exact ⟨i + 1, by go_num, hlt, HN5⟩
        case measure => simp [intOf]; omega
      · have e : K = i := by omega
        have HRES : Hid (∀ W', UNL B k n m lb lg LV f E u v V (cs.take i) w W' → UnP B k n m lb lg LV f E u v V w (.returned (.tuple #[])) W') := Lib.hid fun W' hB => by
          obtain ⟨Vi, Li, q1, q2, q3, q4⟩ := hB
          rw [← e, HKK.out, List.take_length] at q2
          refine ⟨Vi, Li, rfl, q1, q2.next, q2.prev, fun x hx y hy => mid_end q2 (fun y hy => ?_) hx hy, q3, q4⟩
          have hyn : y < n := by
            rcases hy with rfl | hy
            · exact HV.out
            · exact (rs_lt HGO.out.lt hy).2
          exact (HBH.out y hyn).2 hy
        have HR := Lib.hid (HRES.out _ HJ.out.1)
        clear HJ e HRES
        go_wp2
        exact bodyPost_end (results_none rfl _ _ _) rfl HR.out
  case same =>
    have he : u = v := by omega
    subst he
    clear hne
    go_wp2_with fail
    -- tail
    have HLT : Hid (∀ x ∈ o, x < n) := Lib.hid fun x hx => co_lt HGO.out ((HO.out x).1 hx)
    have HSE := Lib.hid (settle_any HC5.out H5.out.2.2.2 H5.out.1 HLT.out HOL.out)
    refine HSE.out.mono ?_
    rintro e w6 ⟨X, L6, rfl, hX, hC6, hL6, hF6⟩
    have HM6 : Hid (Mid n E u u (fun _ => False) (cutV (arcV n V u u false) X o)) := Lib.hid (mid_start HGO.out HO.out hX)
    have HS6 : Hid (Shr n V (cutV (arcV n V u u false) X o) LV L6) := Lib.hid (by
      have h1 := shr_cut (fun x hx => (HC5.out.row 2 (by omega) x hx).2.2.2) hL6
      unfold Shr at h1 ⊢
      simp only [arcV_two] at h1
      exact h1)
    have HC6 := Lib.hid hC6
    have H6 : Hid (RowAt w6 bA gA n A ∧ Fr (fun g => g = lg ∨ ∃ a i, a < 3 ∧ i < n ∧ g = k.rg a i) w w6 ∧ TabW w6) := Lib.hid (by
      have hra := H5.out.2.1
      refine ⟨hra.keep (hF6.block (heap_lt hra.1) ?_) (hF6.block (heap_lt hra.2.1) ?_), ?_, ?_⟩
      · rintro (e | ⟨i, hi, e⟩)
        · exact row_ne hra (HC5.out.lst _ rfl).1 e
        · exact row_ne hra (HC5.out.row 2 (by omega) i hi) e
      · rintro (e | ⟨i, hi, e⟩)
        · exact HGA.out.1 e.symm
        · exact HGA.out.2.1 2 (by omega) i hi e.symm
      · exact H5.out.2.2.1.trans (F' := fun g => g = lg ∨ ∃ i, i < n ∧ g = k.rg 2 i) hF6 (fun g _ e => e.imp id (fun ⟨i, hi, e⟩ => ⟨2, i, by omega, hi, e⟩))
      · exact H5.out.2.2.2.fr hF6 (fun e => by
          have hB := HTB.out
          rcases e with e | ⟨i, hi, e⟩
          · have h9 : B ≤ lg := (HC5.out.lst _ rfl).2.1
            omega
          · have := HC5.out.ge.2.2 2 (by omega) i hi
            omega))
    have HOW : Hid (Lst.OwnI w4.heap.size w6 v5 (natI o)) := Lib.hid (own_same H5.out.1 fun g hg hlt => hF6.block hlt (by
      rintro (e | ⟨i, hi, e⟩)
      · have := HBLK.out.1
        omega
      · have := HBLK.out.2 2 (by omega) i hi
        omega))
    obtain ⟨_, _, _, c3, _⟩ := hC6.cells
    obtain ⟨g2, hp2, hlt2, hcl2⟩ := hC6.way (a := 2) (by omega) HU.out
    rw [hp2] at c3
    have HH := Lib.hid (has_any (k.rb 2 u) (k.rg 2 u) n (cutV (arcV n V u u false) X o 2 u) (u : Int) w6 (hC6.row 2 (by omega) u HU.out))
    clear hX hC6 hL6 hF6 HSE HC5 H5 hp2 H4
    go_wp2_with fail
    refine HH.out.mono ?_
    rintro e w7 ⟨rfl, hw⟩
    subst hw
    have hhe : hasI n (cutV (arcV n V u u false) X o 2 u) (u : Int) = (cutV (arcV n V u u false) X o 2 u).testBit u := by
      unfold hasI
      have := HV.out
      rw [decide_eq_true (by omega), Bool.true_and]
      simp
    rw [hhe]
    have HHU : Hid ((cutV (arcV n V u u false) X o 2 u).testBit u = true ↔ Rs (Less E u u) u u) := Lib.hid (HM6.out.done u HU.out u HV.out (.inl (.inl rfl)))
    clear hhe HH
    by_cases hh : (cutV (arcV n V u u false) X o 2 u).testBit u = true
    · rw [hh]
      have HRES : Hid (UnP B k n m lb lg LV f E u u V w (.returned (.tuple #[])) w6) := Lib.hid ⟨_, L6, rfl, HC6.out, HM6.out.next, HM6.out.prev, fun x hx y hy => mid_same HM6.out (HHU.out.1 hh) hx hy, HS6.out, H6.out.2.1⟩
      clear c3 hcl2 hh
      go_wp2
      exact bodyPost_end (results_none rfl _ _ _) rfl HRES.out
    have HNR : Hid (¬ Rs (Less E u u) u u) := Lib.hid fun e => hh (HHU.out.2 e)
    rw [Bool.not_eq_true] at hh
    rw [hh]
    clear HHU hh c3 hcl2
    have HND := Lib.hid (nodes_any (n := n) (w := w6) HC6.out.v)
    go_wp2_with fail
    refine HND.out.mono ?_
    rintro e w7 ⟨rfl, hb7⟩
    have HOF : Hid (Calls Tryd.prog 47 #[.int .i64 (n : Int), v5] w7 (RowNew n (ofV n (natI o)) w7)) := Lib.hid (by
      have := of_row (n : Int) w7 ((HOW.out.ints (by rw [natI_len]; have := HOL.out; omega)).below hb7)
      rw [show Bits.rowLen (n : Int) = n by unfold Bits.rowLen; omega] at this
      exact this)
    have HB7 := Lib.hid hb7
    clear hb7 HND HOW
    go_wp2_with fail
    refine HOF.out.mono ?_
    rintro e w8 ⟨bO, gO, rfl, hrO, hb8, _, hgO⟩
    have hb68 : Below w6.heap.size w6 w8 := HB7.out.trans (hb8.mono HB7.out.size)
    have hr8 := H6.out.1.below hb68
    have HC8 := Lib.hid (HC6.out.below hb68)
    have H8 : Hid (RowAt w8 bA gA n A ∧ Below w6.heap.size w6 w8) := Lib.hid ⟨hr8, hb68⟩
    have HMI := Lib.hid (minus_row bA gA n A bO gO n _ w8 hr8 hrO ⟨row_ne hrO hr8, by have := heap_lt H6.out.1.2.1; have := HB7.out.size; omega⟩)
    clear hb68 hr8 hrO hb8 hgO HOF
    go_wp2_with fail
    refine HMI.out.mono ?_
    rintro e w9 ⟨rfl, hr9, hg9⟩
    obtain ⟨S, hS⟩ : ∃ S, S = minusV A (ofV n (natI o)) := ⟨_, rfl⟩
    rw [← hS] at hr9
    have HSS : Hid (∀ x, x < n → (S.testBit x = true ↔ (Rs E x u ∧ ¬ Co E u u x))) := Lib.hid fun x hx => by
      have h1 : (ofV n (natI o)).testBit x = decide (x ∈ o) := by
        unfold ofV
        rw [ofV_bit o 0 HLT.out]
        simp
      rw [hS, minusV_testBit, h1, Bool.and_eq_true, HAB.out x hx, Bool.not_eq_true', decide_eq_false_iff_not, HO.out x]
      constructor
      · rintro ⟨rfl | h2, h3⟩
        · exact absurd (.inl rfl) h3
        · exact ⟨h2, h3⟩
      · rintro ⟨h2, h3⟩
        exact ⟨.inr h2, h3⟩
    have HC9 := Lib.hid (HC8.out.other H8.out.1.2.1 HGA.out.2.1 (fun y hy => by cases hy; exact HGA.out.1) hg9)
    have H9 : Hid (RowAt w9 bA gA n S ∧ Fr (fun g => g = lg ∨ ∃ a i, a < 3 ∧ i < n ∧ g = k.rg a i) w w9 ∧ TabW w9) := Lib.hid (by
      have hf9 : Fr (fun g => g = gA) w8 w9 := Fr.of_grown hg9 (fun z hz => by injection hz with hz; exact hz.symm)
      refine ⟨hr9, ?_, ?_⟩
      · refine (H6.out.2.1.trans (F' := fun _ => False) (Fr.of_below H8.out.2) (fun g _ e => e.elim)).trans hf9 (fun g hg e => ?_)
        have := HGA.out.2.2.2
        omega
      · exact (H6.out.2.2.below H8.out.2).fr hf9 (fun e => by have := HGA.out.2.2.1; have := HTB.out; omega))
    have HBE := Lib.hid (behind_any HC9.out HV.out)
    clear hr9 hg9 hS HMI HC8 HC6 H6 H8 HB7 HO HOL HAB
    go_wp2_with fail
    refine HBE.out.mono ?_
    rintro e w10 ⟨bL, gL, L, rfl, hrL, hL, hbL, _, hgL⟩
    have HC10 := Lib.hid (HC9.out.below hbL)
    have H10 : Hid (RowAt w10 bL gL n L ∧ RowAt w10 bA gA n S ∧ Fr (fun g => g = lg ∨ ∃ a i, a < 3 ∧ i < n ∧ g = k.rg a i) w w10 ∧ TabW w10) := Lib.hid ⟨hrL, H9.out.1.below hbL, H9.out.2.1.trans (F' := fun _ => False) (Fr.of_below hbL) (fun g _ e => e.elim), H9.out.2.2.below hbL⟩
    have HL : Hid (∀ x, x < n → L.testBit x = (decide (x = u) || (cutV (arcV n V u u false) X o 2 u).testBit x)) := Lib.hid hL
    have HCN1 := Lib.hid (count_any bL gL n L w10 hrL)
    have HCN2 := Lib.hid (count_any bA gA n S w10 H10.out.2.1)
    clear hrL hL hbL hgL HBE HC9 H9
    go_wp2_with fail
    refine HCN1.out.mono ?_
    rintro e _ ⟨rfl, hw⟩
    subst hw
    go_wp2_with fail
    refine HCN2.out.mono ?_
    rintro e _ ⟨rfl, hw⟩
    subst hw
    clear HCN1 HCN2
    go_wp2_with fail
    · refine (HRE.out w10 _ L6 bA gA S HC10.out H10.out.2.2.2 H10.out.2.1 HGA.out.2.1 HGA.out.1 HM6.out HNR.out HSS.out).mono ?_
      rintro e w11 ⟨V', LV', rfl, q1, q2, q3, q4, q5, q6⟩
      have HRES : Hid (UnP B k n m lb lg LV f E u u V w (.returned (.tuple #[])) w11) := Lib.hid ⟨V', LV', rfl, q1, q2, q3, q4, HS6.out.trans q5, H10.out.2.2.1.trans q6 (fun g _ e => e)⟩
      clear q1 q2 q3 q4 q5 q6
      go_wp2
      exact bodyPost_end (results_none rfl _ _ _) rfl HRES.out
    have HLI := Lib.hid (rowList_any bL gL n L w10 H10.out.1 H10.out.2.2.2.1 H10.out.2.2.2.2)
    refine HLI.out.mono ?_
    rintro e wC ⟨⟨lv, rfl, hown⟩, hbC⟩
    rw [rowInts_nat] at hown
    obtain ⟨cs, hcs⟩ : ∃ cs, cs = preB (fun x => L.testBit x) n := ⟨_, rfl⟩
    rw [← hcs] at hown
    have HMEM : Hid (∀ x, x ∈ cs ↔ (x < n ∧ L.testBit x = true)) := Lib.hid fun x => by
      rw [hcs]
      unfold preB
      rw [List.mem_filter, List.mem_range]
    have HND : Hid (cs.Nodup) := Lib.hid (by
      rw [hcs]
      unfold preB
      exact List.Pairwise.filter _ List.nodup_range)
    have HBH : Hid (∀ x, x < n → (x ∈ cs ↔ (x = u ∨ Rs E u x))) := Lib.hid fun x hx => by
      rw [HMEM.out x, HL.out x hx, Bool.or_eq_true, decide_eq_true_eq, mid_behind HM6.out HV.out hx]
      exact ⟨fun h => h.2, fun h => ⟨hx, h⟩⟩
    have hcl2 : cs.length ≤ 4096 := by
      rw [hcs]
      have := List.length_filter_le (fun x => L.testBit x) (List.range n)
      rw [List.length_range] at this
      have h3 := HC10.out.hn
      unfold preB
      omega
    have HCC := Lib.hid (HC10.out.below hbC)
    have HRC := Lib.hid (H10.out.2.1.below hbC)
    have HTC := Lib.hid (H10.out.2.2.2.below hbC)
    have HFC : Hid (Fr (fun g => g = lg ∨ ∃ a i, a < 3 ∧ i < n ∧ g = k.rg a i) w wC) := Lib.hid (H10.out.2.2.1.trans (F' := fun _ => False) (Fr.of_below hbC) (fun g _ e => e.elim))
    obtain ⟨pd, cd, hlv, hcell⟩ := own_cell hown (by omega)
    subst hlv
    have HCU : Hid (∀ i, i < cs.length → ∃ g o, pd = some ⟨g, o, none⟩ ∧ (∀ W' : World, Fr (fun g => g = lg ∨ ∃ a i, a < 3 ∧ i < n ∧ g = k.rg a i) wC W' → W'.cell? ⟨g, o + i, none⟩ = some (.int .i64 ((cs.getD i 0 : Nat) : Int))) ∧ cs.getD i 0 < n ∧ cs.getD i 0 ∈ cs ∧ cs.take (i + 1) = cs.take i ++ [cs.getD i 0]) := Lib.hid fun i hi => by
      obtain ⟨g, o, h1, h2⟩ := hcell i hi
      have e : cs.getD i 0 = cs[i] := by simp [List.getD_eq_getElem?_getD, hi]
      refine ⟨g, o, h1, fun W' hW => h2 W' (fun g' hg => hW.block (World.ownsRow.lt hown g' hg).2 (fun hF => ?_)), by rw [e]; exact ((HMEM.out _).1 (List.getElem_mem hi)).1, by rw [e]; exact List.getElem_mem hi, by rw [e, List.take_succ_eq_append_getElem hi]⟩
      rcases hF with e | ⟨a, x, ha, hx, e⟩
      · have := own_ne hown (HCC.out.lst _ rfl).1.2.1 (by decide)
        rw [hg, e] at this
        exact this rfl
      · have := own_ne hown (HCC.out.row a ha x hx).2.1 (by decide)
        rw [hg, e] at this
        exact this rfl
    have HJ0 : Hid (UNL B k n m lb lg LV f E u u V (cs.take 0) w wC) := Lib.hid ⟨_, L6, HCC.out, by simpa using HM6.out, HS6.out, HFC.out⟩
    have HRR : Hid (∀ W', Fr (fun g => g = lg ∨ ∃ a i, a < 3 ∧ i < n ∧ g = k.rg a i) wC W' → RowAt W' bA gA n S ∧ TabW W') := Lib.hid fun W' hW => by
      have hra := HRC.out
      refine ⟨hra.keep (hW.block (heap_lt hra.1) ?_) (hW.block (heap_lt hra.2.1) ?_), HTC.out.fr hW (fun e => ?_)⟩
      · rintro (e | ⟨a, i, ha, hi, e⟩)
        · exact row_ne hra (HCC.out.lst _ rfl).1 e
        · exact row_ne hra (HCC.out.row a ha i hi) e
      · rintro (e | ⟨a, i, ha, hi, e⟩)
        · exact HGA.out.1 e.symm
        · exact HGA.out.2.1 a ha i hi e.symm
      · have hB := HTB.out
        rcases e with e | ⟨a, i, ha, hi, e⟩
        · have h9 : B ≤ lg := (HCC.out.lst _ rfl).2.1
          omega
        · have := HCC.out.ge.2.2 a ha i hi
          omega
    obtain ⟨K, hK⟩ : ∃ K, K = cs.length := ⟨_, rfl⟩
    have HKK := Lib.hid hK
    have hKi : (K : Int) ≤ 4096 := by omega
    rw [← hK] at HCU ⊢
    clear hown hbC hcs hcl2 hcell hK HLI HC10 H10
    go_wp2_with fail
    go_loopw [78] (fun s78 wr => ∃ i : Nat, s78 = .int .i64 (i : Int) ∧ i ≤ K ∧ Hid (UNL B k n m lb lg LV f E u u V (cs.take i) w wr ∧ Fr (fun g => g = lg ∨ ∃ a i, a < 3 ∧ i < n ∧ g = k.rg a i) wC wr)) (fun s78 _ => K - (intOf s78).toNat)
    case atStart => exact ⟨0, rfl, Nat.zero_le _, HJ0.out, Fr.refl _ _⟩
    case round =>
      clear HJ0
      obtain ⟨i, rfl, hi, HJ⟩ := hrel
      by_cases hlt : i < K
      · obtain ⟨g, o2, rfl, hcx, hxn, hxm, htk⟩ := HCU.out i hlt
        obtain ⟨⟨Vi, Li, q1, q2, q3, q4⟩, q5⟩ := HJ.out
        have hx := hcx _ q5
        have hii : (i : Int) < (K : Int) := by omega
        obtain ⟨c, hcd⟩ : ∃ c, c = cs.getD i 0 := ⟨_, rfl⟩
        rw [← hcd] at hx hxn hxm htk
        have hci : (c : Int) < (n : Int) := by omega
        have hnc : ¬ c ∈ cs.take i := by
          have h1 : (cs.take (i + 1)).Nodup := HND.out.sublist (List.take_sublist _ _)
          rw [htk, List.nodup_append] at h1
          exact fun h2 => h1.2.2 c h2 c (by simp) rfl
        have hbv : c = u ∨ Rs E u c := (HBH.out c hxn).1 hxm
        obtain ⟨hrS, htS⟩ := HRR.out _ q5
        have HLO := Lib.hid (lose_any q1 htS HTB.out hrS hxn)
        have HFI := Lib.hid (And.intro (And.intro q3 q4) (And.intro q5 htk))
        have HMI := Lib.hid (fun (A0 X0 : Nat) (o0 cs0 : List Nat) => mid_lose q2 hxn hbv HSS.out (A := A0) (X := X0) (o := o0) (cs := cs0))
        have HXN := Lib.hid hxn
        have HNC := Lib.hid hnc
        clear q1 q2 q3 q4 q5 hcx hxn hxm htk hcd hnc hbv hrS htS HJ
        go_wp2_with fail
        refine HLO.out.mono ?_
        rintro e wa ⟨A0, X0, o0, cs0, L0, rfl, r1, r2, r3, r4, r5, r6, r7⟩
        have HN5 : Hid (UNL B k n m lb lg LV f E u u V (cs.take (i + 1)) w wa ∧ Fr (fun g => g = lg ∨ ∃ a i, a < 3 ∧ i < n ∧ g = k.rg a i) wC wa) := Lib.hid (by
          obtain ⟨⟨h3, h4⟩, h5, h6⟩ := HFI.out
          obtain ⟨h7, h8⟩ := HMI.out A0 X0 o0 cs0 r1 HNC.out r3 r4
          refine ⟨⟨_, L0, r5, ?_, h3.trans (shr_lost HXN.out r6 h8), h4.trans r7 (fun _ _ e => e)⟩, h5.trans r7 (fun _ _ e => e)⟩
          have e : (fun y => y ∈ cs.take (i + 1)) = fun y => y ∈ cs.take i ∨ y = c := by
            funext y
            rw [h6, List.mem_append, List.mem_singleton]
          rw [e]
          exact h7)
        clear r1 r2 r3 r4 r5 r6 r7 HLO HFI HMI HXN HNC
        go_wp2_with fail
        go_roundw
        case rel => exact ⟨i + 1, by go_num, hlt, HN5⟩
        case measure => simp [intOf]; omega
      · have e : K = i := by omega
        have HRES : Hid (∀ W', UNL B k n m lb lg LV f E u u V (cs.take i) w W' → UnP B k n m lb lg LV f E u u V w (.returned (.tuple #[])) W') := Lib.hid fun W' hB => by
          obtain ⟨Vi, Li, q1, q2, q3, q4⟩ := hB
          rw [← e, HKK.out, List.take_length] at q2
          refine ⟨Vi, Li, rfl, q1, q2.next, q2.prev, fun x hx y hy => mid_end q2 (fun y hy => ?_) hx hy, q3, q4⟩
          have hyn : y < n := by
            rcases hy with rfl | hy
            · exact HV.out
            · exact (rs_lt HGO.out.lt hy).2
          exact (HBH.out y hyn).2 hy
        have HR := Lib.hid (HRES.out _ HJ.out.1)
        clear HJ e HRES
        go_wp2
        exact bodyPost_end (results_none rfl _ _ _) rfl HR.out
end Go.Proofs.YtakgepdlninnhaaDoor.Cs
namespace Go.Proofs.YtakgepdlninnhaaDoor.Cs
open Go.ChangeShapes Go.WideShapes Go.ChangeAt Go.RowKit Base F Bits Df Cl
variable {n : Nat} {f : Int × Int → Int} {V V' : Nat → Nat → Nat} {u v LV : Nat}
theorem ar_less (a b : Nat) : Ar n (setC f ((u : Int), (v : Int)) 0) a b ↔ Less (Ar n f) u v a b := by
  unfold Ar Less
  rw [setC_cast]
  by_cases h : a = u ∧ b = v
  · rw [if_pos h]
    constructor
    · rintro ⟨_, _, h3⟩
      omega
    · rintro ⟨_, h2⟩
      exact absurd h h2
  · rw [if_neg h]
    exact ⟨fun k => ⟨k, h⟩, fun k => k.1⟩
theorem good_less (hg : Good n f V) (hc : 1 < f ((u : Int), (v : Int))) : Good n (setC f ((u : Int), (v : Int)) (f ((u : Int), (v : Int)) - 1)) V ∧ Told n V V 0 := by
  have same : ∀ a b, Ar n (setC f ((u : Int), (v : Int)) (f ((u : Int), (v : Int)) - 1)) a b ↔ Ar n f a b := fun a b => by
    unfold Ar
    rw [setC_cast]
    by_cases h : a = u ∧ b = v
    · obtain ⟨rfl, rfl⟩ := h
      rw [if_pos ⟨rfl, rfl⟩]
      refine and_congr_right fun _ => and_congr_right fun _ => ⟨fun _ => by omega, fun _ => by omega⟩
    · rw [if_neg h]
  refine ⟨⟨fun x hx y hy => (hg.next x hx y hy).trans (same x y).symm, fun x hx y hy => (hg.prev x hx y hy).trans (same x y).symm, fun x hx y hy => (hg.rows x hx y hy).trans (rs_iff same x y).symm⟩, fun x _ => ?_⟩
  simp
theorem good_gone (h0 : ∀ x, x < n → ∀ y, y < n → ((V' 0 x).testBit y = true ↔ Less (Ar n f) u v x y)) (h1 : ∀ x, x < n → ∀ y, y < n → ((V' 1 y).testBit x = true ↔ Less (Ar n f) u v x y)) (h2 : ∀ x, x < n → ∀ y, y < n → ((V' 2 x).testBit y = true ↔ Rs (Less (Ar n f) u v) x y)) (hs : Shr n V V' 0 LV) : Good n (setC f ((u : Int), (v : Int)) 0) V' ∧ Told n V V' LV := by
  refine ⟨⟨fun x hx y hy => (h0 x hx y hy).trans (ar_less x y).symm, fun x hx y hy => (h1 x hx y hy).trans (ar_less x y).symm, fun x hx y hy => (h2 x hx y hy).trans (rs_iff ar_less x y).symm⟩, fun x hx => ?_⟩
  rw [hs.2 x hx]
  constructor
  · rintro (h | ⟨y, hy, h3, h4⟩) k
    · simp at h
    · have := k y hy
      rw [h3, h4] at this
      cases this
  · intro k
    refine .inr (Classical.byContradiction fun hno => k fun y hy => ?_)
    cases e : (V 2 x).testBit y with
    | true =>
      cases e2 : (V' 2 x).testBit y with
      | true => rfl
      | false => exact absurd ⟨y, hy, e, e2⟩ hno
    | false =>
      cases e2 : (V' 2 x).testBit y with
      | false => rfl
      | true =>
        have := hs.1 x hx y hy e2
        rw [e] at this
        cases this
/-- An arc of a closure that is good is on its way out: what unlink begins with. -/
theorem going_good (hg : Good n f V) (h : Ar n f u v) : Going n (Ar n f) u v (arcV n V u v false) :=
  going_arc h (fun _ _ e => ⟨e.1, e.2.1⟩) hg.next hg.prev hg.rows
end Go.Proofs.YtakgepdlninnhaaDoor.Cs
namespace Go.Proofs.YtakgepdlninnhaaDoor.Cs
open Go.ChangeShapes Go.WideShapes Go.ChangeAt Go.RowKit Base F Bits Df Cl
variable {B n m : Nat} {k : CB} {w W W0 W' : World} {f : Int × Int → Int} {V : Nat → Nat → Nat} {la : La} {u v : Nat}
set_option maxRecDepth 100000 in
theorem drop_bad {pv : Value} (h : ClV w pv n) (u v : Int) (hb : ¬ ((0 ≤ u ∧ u < (n : Int)) ∧ (0 ≤ v ∧ v < (n : Int)))) : Calls Tryd.prog 11 #[pv, .int .i64 u, .int .i64 v] w (HeldP (.int .i64 1) w) := by
  have HN := Lib.hid (isNode_any h u)
  have HC := Lib.hid h
  by_cases hu : 0 ≤ u ∧ u < (n : Int)
  · have hv : ¬ (0 ≤ v ∧ v < (n : Int)) := fun e => hb ⟨hu, e⟩
    rw [decide_eq_true hu] at HN
    clear h hb hu
    go_enter Tryd.func11, Tryd.ntmps11
    go_wp2_with fail
    refine HN.out.mono ?_
    rintro e w1 ⟨rfl, hb⟩
    have HB := Lib.hid hb
    have HN2 := Lib.hid (isNode_any (HC.out.below hb) v)
    rw [decide_eq_false hv] at HN2
    clear hb HN hv
    go_wp2_with fail
    refine HN2.out.mono ?_
    rintro e w2 ⟨rfl, hb⟩
    have HB2 := Lib.hid (HB.out.trans (hb.mono HB.out.size))
    clear hb HN2 HB
    go_wp2
    go_ret
    exact ⟨rfl, HB2.out⟩
  · rw [decide_eq_false hu] at HN
    clear h hb hu
    go_enter Tryd.func11, Tryd.ntmps11
    go_wp2_with fail
    refine HN.out.mono ?_
    rintro e w1 ⟨rfl, hb⟩
    have HB := Lib.hid hb
    clear hb HN
    go_wp2
    go_ret
    exact ⟨rfl, HB.out⟩
set_option maxRecDepth 100000 in
theorem drop_none (h : CS B k n w f V la m) (h0 : f ((u : Int), (v : Int)) = 0) (hu : u < n) (hv : v < n) : Calls Tryd.prog 11 #[.pointer (some ⟨k.b, 0, none⟩), .int .i64 (u : Int), .int .i64 (v : Int)] w (HeldP (.int .i64 3) w) := by
  have hn4 : (n : Int) ≤ 4096 := by have := h.hn; omega
  have hui : (u : Int) < (n : Int) := by omega
  have hvi : (v : Int) < (n : Int) := by omega
  have HN := Lib.hid (isNode_any h.v (u : Int))
  rw [decide_eq_true ⟨by omega, hui⟩] at HN
  have HC := Lib.hid h
  have H0 := Lib.hid h0
  clear h h0 hu hv
  go_enter Tryd.func11, Tryd.ntmps11
  go_wp2_with fail
  refine HN.out.mono ?_
  rintro e w1 ⟨rfl, hb⟩
  have HB1 := Lib.hid hb
  have HN2 := Lib.hid (isNode_any (HC.out.below hb).v (v : Int))
  rw [decide_eq_true ⟨by omega, hvi⟩] at HN2
  clear hb HN
  go_wp2_with fail
  refine HN2.out.mono ?_
  rintro e w2 ⟨rfl, hb⟩
  have HB2 := Lib.hid (HB1.out.trans (hb.mono HB1.out.size))
  have hcs := HC.out.below HB2.out
  obtain ⟨c0, _⟩ := hcs.cells
  have HOF := Lib.hid (of_any hcs.map (u : Int) (v : Int) (by omega) (by omega) (by have := H0.out; omega))
  rw [H0.out] at HOF
  clear hb HN2 HB1 hcs
  go_wp2_with fail
  refine HOF.out.mono ?_
  rintro e w3 ⟨rfl, rfl⟩
  clear HOF c0
  go_wp2
  go_ret
  exact ⟨rfl, HB2.out⟩
/-- What Drop leaves. -/
def DropP (B : Nat) (k : CB) (n m : Nat) (f : Int × Int → Int) (V : Nat → Nat → Nat) (u v : Nat) (W : World) (e : Ending) (W' : World) : Prop :=
  ∃ m' V' lb lg LV', e = .returned (.int .i64 0) ∧ m' ≤ m + 1 ∧ CS B k n W' (setC f ((u : Int), (v : Int)) (f ((u : Int), (v : Int)) - 1)) V' (some (lb, lg, LV')) m' ∧ Good n (setC f ((u : Int), (v : Int)) (f ((u : Int), (v : Int)) - 1)) V' ∧ Told n V V' LV' ∧ Fr (CFr k n) W W' ∧ W.heap.size ≤ lg
set_option maxRecDepth 100000 in
set_option maxHeartbeats 4000000 in
theorem drop_ok (HREN : ∀ m' lb lg f', RenC B k n m' lb lg f' (Ar n f) u v) (hgd : Good n f V) (h1f : 1 ≤ f ((u : Int), (v : Int))) (h : CS B k n w f V la m) (hm : m ≤ 100000) (hT : TabW w) (hTB : 0 < B) (hf : ∀ x, 0 ≤ f x ∧ f x ≤ 100000) (hu : u < n) (hv : v < n) :
    Calls Tryd.prog 11 #[.pointer (some ⟨k.b, 0, none⟩), .int .i64 (u : Int), .int .i64 (v : Int)] w (DropP B k n m f V u v w) := by
  have hn4 : (n : Int) ≤ 4096 := by have := h.hn; omega
  have hui : (u : Int) < (n : Int) := by omega
  have hvi : (v : Int) < (n : Int) := by omega
  have HN := Lib.hid (isNode_any h.v (u : Int))
  rw [decide_eq_true ⟨by omega, hui⟩] at HN
  have HC := Lib.hid h
  have HT := Lib.hid hT
  have HTB := Lib.hid hTB
  have HF := Lib.hid hf
  have HU := Lib.hid hu
  have HV := Lib.hid hv
  have HM := Lib.hid hm
  obtain ⟨c, hc⟩ : ∃ c, c = f ((u : Int), (v : Int)) := ⟨_, rfl⟩
  have hcb : 1 ≤ c ∧ c ≤ 100000 := by rw [hc]; exact ⟨h1f, (hf _).2⟩
  have HG := Lib.hid hgd
  have HRE := Lib.hid HREN
  have HCE := Lib.hid hc
  clear h hm hT hTB hf hu hv hc HREN hgd h1f
  go_enter Tryd.func11, Tryd.ntmps11
  go_wp2_with fail
  refine HN.out.mono ?_
  rintro e w1 ⟨rfl, hb⟩
  have HB1 := Lib.hid hb
  have HN2 := Lib.hid (isNode_any (HC.out.below hb).v (v : Int))
  rw [decide_eq_true ⟨by omega, hvi⟩] at HN2
  clear hb HN
  go_wp2_with fail
  refine HN2.out.mono ?_
  rintro e w2 ⟨rfl, hb⟩
  have HB2 := Lib.hid (HB1.out.trans (hb.mono HB1.out.size))
  have hcs := HC.out.below HB2.out
  obtain ⟨c0, _⟩ := hcs.cells
  have HOF := Lib.hid (of_any hcs.map (u : Int) (v : Int) (by omega) (by omega) (by have := HF.out ((u : Int), (v : Int)); omega))
  rw [← HCE.out] at HOF
  have hne : (c == 0) = false := by rw [beq_eq_false_iff_ne]; omega
  clear hb HN2 HB1 hcs
  go_wp2_with fail
  refine HOF.out.mono ?_
  rintro e w3 ⟨rfl, rfl⟩
  have HSC := Lib.hid (set_any (HC.out.below HB2.out).map HM.out (u : Int) (v : Int) (c - 1) (by omega) (by omega) (by omega))
  have hcw : wrap64 (c - 1) = c - 1 := IntWalk.wrap64_in _ ⟨by omega, by omega⟩
  clear HOF
  go_wp2_with fail
  refine HSC.out.mono ?_
  rintro e w4 ⟨m', hm', rfl, hm4, hg4⟩
  have HC4 := Lib.hid ((HC.out.below HB2.out).count hm4 hg4)
  have HM4 := Lib.hid hm'
  have HF4 : Hid (Fr (CFr k n) w w4) := Lib.hid ((Fr.of_below HB2.out).trans (F' := fun g => g = k.mb) (Fr.of_grown hg4 (fun z hz => by injection hz with hz; exact hz.symm)) (fun g _ e => .inr (.inl e)))
  have HND := Lib.hid (nodes_any HC4.out.v)
  clear hm' hm4 hg4 HSC c0 hcw
  go_wp2_with fail
  refine HND.out.mono ?_
  rintro e w5 ⟨rfl, hb5⟩
  have HB5 := Lib.hid hb5
  have HNEW : Hid (Calls Tryd.prog 29 #[.int .i64 (n : Int)] w5 (RowNew n 0 w5)) := Lib.hid (by
    have := new_row (n : Int) w5
    rw [show Bits.rowLen (n : Int) = n by unfold Bits.rowLen; omega] at this
    exact this)
  clear hb5 HND
  go_wp2_with fail
  refine HNEW.out.mono ?_
  rintro e w6 ⟨lb, lg, rfl, hr6, hb6, h61, h62⟩
  have hb46 : Below w4.heap.size w4 w6 := HB5.out.trans (hb6.mono HB5.out.size)
  have HR6 : Hid (RowAt w6 lb lg n 0 ∧ Below w4.heap.size w4 w6 ∧ w4.heap.size ≤ lg) := Lib.hid ⟨hr6, hb46, by have := HB5.out.size; omega⟩
  obtain ⟨_, _, _, _, c4, c5⟩ := clo_cells (HC4.out.below hb46).head
  have HC7 := Lib.hid (HC4.out.freshLast hr6 hb46 HR6.out.2.2)
  obtain ⟨w7, hw7⟩ : ∃ X, X = w6.setCell ⟨k.b, 4, none⟩ (.pointer (some ⟨lb, 0, none⟩)) := ⟨_, rfl⟩
  have HF7 : Hid (Fr (CFr k n) w w7) := Lib.hid (by
    rw [hw7]
    exact (HF4.out.trans (F' := fun g => g = k.b) (Fr.of_below hb46) (fun g _ e => .inl e)).trans (fr_cell w6 k.b 4 _) (fun g _ e => .inl e))
  rw [← hw7] at HC7
  clear hr6 hb6 h61 h62 hb46 HNEW HB5
  by_cases hc0 : c = 1
  · subst hc0
    have HT7 : Hid (TabW w7) := Lib.hid (HT.out.fr HF7.out (fun e => by
      have hB := HTB.out
      obtain ⟨g1, g2, g3⟩ := HC.out.ge
      rcases e with e | e | ⟨a, i, ha, hi, e⟩
      · omega
      · omega
      · have := g3 a ha i hi
        omega))
    have HUN := Lib.hid (unlink_any (HRE.out _ _ _ _) HC7.out HT7.out HTB.out (going_good HG.out ⟨HU.out, HV.out, by rw [← HCE.out]; decide⟩))
    have HLG : Hid (∀ g, g < w.heap.size → g ≠ lg) := Lib.hid fun g hg e => by
      have := HF4.out.size
      have := HR6.out.2.2
      omega
    clear hne hcb
    go_upto_region 8 with fail
    rw [← hw7]
    clear hw7 c4 c5
    go_wp2_with fail
    refine HUN.out.mono ?_
    rintro e w8 ⟨V', LV', rfl, hcs, h1, h2, h3, hs, hfr⟩
    have HR : Hid (DropP B k n m f V u v w (.returned (.int .i64 0)) w8) := Lib.hid (by
      have h4 := good_gone h1 h2 h3 hs
      have e0 : f ((u : Int), (v : Int)) - 1 = 0 := by rw [← HCE.out]; rfl
      refine ⟨m', V', lb, lg, LV', rfl, HM4.out, ?_, ?_, h4.2, HF7.out.trans hfr (fun g hg e => ?_), by have := HF4.out.size; have := HR6.out.2.2; omega⟩
      · rw [e0]; exact hcs
      · rw [e0]; exact h4.1
      · rcases e with e | e
        · exact absurd e (HLG.out g hg)
        · exact .inr (.inr e))
    clear hcs h1 h2 h3 hs hfr HUN
    go_wp2
    go_ret
    exact HR.out
  · have hne0 : (c == 1) = false := by rw [beq_eq_false_iff_ne]; exact hc0
    have HR : Hid (DropP B k n m f V u v w (.returned (.int .i64 0)) w7) := Lib.hid (by
      have h4 := good_less HG.out (u := u) (v := v) (by rw [← HCE.out]; omega)
      exact ⟨m', V, lb, lg, 0, rfl, HM4.out, by rw [← HCE.out]; exact HC7.out, h4.1, h4.2, HF7.out, by have := HF4.out.size; have := HR6.out.2.2; omega⟩)
    go_upto_region 8 with fail
    rw [← hw7]
    clear hw7 c4 c5
    go_wp2
    go_ret
    exact HR.out
end Go.Proofs.YtakgepdlninnhaaDoor.Cs
namespace Go.Proofs.YtakgepdlninnhaaDoor.Cs
open Df Cl
variable {n : Nat} {E : Nat → Nat → Prop} {V : Nat → Nat → Nat} {u v : Nat} {L : Nat → Bool}
/-- L tells who is to be renewed still. -/
structure Ren (n : Nat) (E : Nat → Nat → Prop) (u v : Nat) (L : Nat → Bool) (V : Nat → Nat → Nat) : Prop where
  arc : E u v
  lt : ∀ a b, E a b → a < n ∧ b < n
  next : ∀ x, x < n → ∀ y, y < n → ((V 0 x).testBit y = true ↔ Less E u v x y)
  prev : ∀ x, x < n → ∀ y, y < n → ((V 1 y).testBit x = true ↔ Less E u v x y)
  done : ∀ x, x < n → L x = false → ∀ y, y < n → ((V 2 x).testBit y = true ↔ Rs (Less E u v) x y)
  todo : ∀ x, x < n → L x = true → ∀ y, y < n → ((V 2 x).testBit y = true ↔ Rs E x y)
theorem ren_start (h : Mid n E u v (fun _ => False) V) (hL : ∀ x, x < n → (L x = true ↔ (Rs E x u ∧ ¬ Co E u v x))) : Ren n E u v L V := by
  refine ⟨h.arc, h.lt, h.next, h.prev, fun x hx hl y hy => ?_, fun x hx hl y hy => ?_⟩
  · by_cases hc : Co E u v x
    · exact h.done x hx y hy (.inl hc)
    · rw [h.todo x hx y hy (fun e => e.elim hc fun e => e.2.elim)]
      refine less_other h.arc fun e => ?_
      rcases e with rfl | e
      · exact hc (.inl rfl)
      · have := (hL x hx).2 ⟨e, hc⟩
        rw [hl] at this
        cases this
  · have := (hL x hx).1 hl
    exact h.todo x hx y hy (fun e => e.elim this.2 fun e => e.2.elim)
/-- The row that settle makes of a component. -/
theorem ren_x (h : Ren n E u v L V) {o : List Nat} (hlt : ∀ x ∈ o, x < n) (hC : ∀ x y, x ∈ o → y ∈ o → x = y ∨ Rs (Less E u v) x y) (hout : ∀ x ∈ o, ∀ y, Less E u v x y → y ∉ o → L y = false) {X : Nat} (hX : SetX n V o X) {a b : Nat} (ha : a ∈ o) (hb : b < n) : X.testBit b = true ↔ Rs (Less E u v) a b := by
  obtain ⟨done, hd, hrow, hall⟩ := hX
  have hgo : ∀ t, t < n → (goesB V o t = true ↔ ∃ x, x ∈ o ∧ Less E u v x t) := fun t ht => by
    unfold goesB
    rw [List.any_eq_true]
    constructor
    · rintro ⟨x, hx, hb⟩
      exact ⟨x, hx, (h.next x (hlt x hx) t ht).1 hb⟩
    · rintro ⟨x, hc, e⟩
      exact ⟨x, hc, (h.next x (hlt x hc) t ht).2 e⟩
  have hR : ∀ t, t < n → t ∉ o → goesB V o t = true → ∀ b, b < n → ((V 2 t).testBit b = true ↔ Rs (Less E u v) t b) := fun t ht hto hg b hb => by
    obtain ⟨x, hx, e⟩ := (hgo t ht).1 hg
    exact h.done t ht (hout x hx t e hto) b hb
  have key := settle_end (R := fun t b => Rs (Less E u v) t b) (row0 := fun b => b ∈ o ∧ ∃ y ∈ o, goesB V o y = true) (row := fun b => b < n ∧ X.testBit b = true) (N := fun t => t < n ∧ t ∉ o ∧ goesB V o t = true) (done := done)
    (fun a b c _ h1 _ h2 => h1.trans h2) hd (fun t h1 h2 => h1.2.1 h2.1) (fun b => by
      constructor
      · rintro ⟨hb, hx⟩
        rcases (hrow b hb).1 hx with h1 | ⟨t, h1, h2⟩
        · exact .inl h1
        · obtain ⟨ht, h3, h4⟩ := hd t h1
          exact .inr ⟨t, h1, h2.imp id fun h5 => (hR t ht h3 h4 b hb).1 h5⟩
      · rintro (h1 | ⟨t, h1, h2⟩)
        · have hb := hlt b h1.1
          exact ⟨hb, (hrow b hb).2 (.inl h1)⟩
        · obtain ⟨ht, h3, h4⟩ := hd t h1
          have hb : b < n := by
            rcases h2 with rfl | h2
            · exact ht
            · exact (rs_lt h.lt (less_sub h2)).2
          exact ⟨hb, (hrow b hb).2 (.inr ⟨t, h1, h2.imp id fun h5 => (hR t ht h3 h4 b hb).2 h5⟩)⟩) (fun t ht => ⟨ht.1, hall t ht.1 ht.2.1 ht.2.2⟩) b
  have e : X.testBit b = true ↔ (b < n ∧ X.testBit b = true) := ⟨fun h => ⟨hb, h⟩, fun h => h.2⟩
  rw [e, key, settle_row (E := Less E u v) (C := fun x => x ∈ o) hC ha]
  constructor
  · rintro (⟨h1, y, hy, h2⟩ | ⟨t, ⟨ht, h1, h2⟩, h3⟩)
    · obtain ⟨x, hx, e⟩ := (hgo y (hlt y hy)).1 h2
      exact .inl ⟨⟨x, y, hx, hy, e⟩, h1⟩
    · obtain ⟨x, hx, e⟩ := (hgo t ht).1 h2
      exact .inr ⟨x, t, hx, e, h1, h3⟩
  · rintro (⟨⟨x, y, hx, hy, e⟩, h4⟩ | ⟨x, y, hx, e, hy, h4⟩)
    · exact .inl ⟨h4, y, hy, (hgo y (hlt y hy)).2 ⟨x, hx, e⟩⟩
    · have hyn := (h.lt _ _ e.1).2
      exact .inr ⟨y, ⟨hyn, hy, (hgo y hyn).2 ⟨x, hx, e⟩⟩, h4⟩
/-- Behind settle: those of the component are renewed. -/
theorem ren_cut (h : Ren n E u v L V) {o : List Nat} (hlt : ∀ x ∈ o, x < n) (hl : ∀ x ∈ o, L x = true) (hC : ∀ x y, x ∈ o → y ∈ o → x = y ∨ Rs (Less E u v) x y) (hout : ∀ x ∈ o, ∀ y, Less E u v x y → y ∉ o → L y = false) {X : Nat} (hX : SetX n V o X) {L' : Nat → Bool} (hL : ∀ x, L' x = true ↔ (L x = true ∧ x ∉ o)) : Ren n E u v L' (cutV V X o) := by
  have h0 : ∀ x, cutV V X o 0 x = V 0 x := fun x => by unfold cutV; rw [if_neg (fun e => by omega)]
  have h1 : ∀ x, cutV V X o 1 x = V 1 x := fun x => by unfold cutV; rw [if_neg (fun e => by omega)]
  refine ⟨h.arc, h.lt, fun x hx y hy => by rw [h0]; exact h.next x hx y hy, fun x hx y hy => by rw [h1]; exact h.prev x hx y hy, fun x hx hx' y hy => ?_, fun x hx hx' y hy => ?_⟩
  · unfold cutV
    by_cases hm : x ∈ o
    · rw [if_pos ⟨rfl, hm⟩, Nat.testBit_and, Bool.and_eq_true, h.todo x hx (hl x hm) y hy, ren_x h hlt hC hout hX hm hy]
      exact ⟨fun k => k.2, fun k => ⟨less_sub k, k⟩⟩
    · rw [if_neg (fun k => hm k.2)]
      refine h.done x hx ?_ y hy
      cases e : L x with
      | false => rfl
      | true =>
        rw [(hL x).2 ⟨e, hm⟩] at hx'
        cases hx'
  · obtain ⟨h2, h3⟩ := (hL x).1 hx'
    unfold cutV
    rw [if_neg (fun k => h3 k.2)]
    exact h.todo x hx h2 y hy
theorem ren_end (h : Ren n E u v L V) (hL : ∀ x, x < n → L x = false) {x y : Nat} (hx : x < n) (hy : y < n) : (V 2 x).testBit y = true ↔ Rs (Less E u v) x y := h.done x hx (hL x hx) y hy
end Go.Proofs.YtakgepdlninnhaaDoor.Cs
namespace Go.Proofs.YtakgepdlninnhaaDoor.Cs
open Df Cl
variable {n : Nat} {E : Nat → Nat → Prop} {V : Nat → Nat → Nat} {u v : Nat} {L L0 M M0 : Nat → Bool}
theorem dfs_congr {nx nx' : Nat → List Nat} {ns o : List Nat} (h : Dfs nx ns L M o) : (∀ x, L x = true → nx x = nx' x) → Dfs nx' ns L M o := by
  induction h with
  | nil => exact fun _ => .nil
  | skip hn _ ih => exact fun k => .skip hn (ih k)
  | @go n ns L K M o p hn h1 h2 ih1 ih2 =>
    intro k
    have h3 := ih1 (fun x hx => k x (wo_iff.1 hx).1)
    have h4 := ih2 (fun x hx => k x (wo_iff.1 (h1.sub x hx)).1)
    rw [k n hn] at h3
    exact .go hn h3 h4
/-- Who is next, of nodes alone. -/
def nxc (n : Nat) (nV : Nat → Nat) (a : Nat) : List Nat := if a < n then nxl n nV a else []
theorem mem_nxc {nV : Nat → Nat} {a b : Nat} : b ∈ nxc n nV a ↔ a < n ∧ b < n ∧ (nV a).testBit b = true := by
  unfold nxc
  by_cases h : a < n
  · rw [if_pos h, mem_nxl]
    exact ⟨fun k => ⟨h, k⟩, fun k => k.2⟩
  · rw [if_neg h]
    exact ⟨fun k => by simp at k, fun k => absurd k.1 h⟩
theorem dfs_nxc {nV : Nat → Nat} {ns o : List Nat} (h : Dfs (nxl n nV) ns L M o) (hL : ∀ x, L x = true → x < n) : Dfs (nxc n nV) ns L M o :=
  dfs_congr h fun x hx => by unfold nxc; rw [if_pos (hL x hx)]
theorem ren_turn (h : Ren n E u v L V) (a b : Nat) : b ∈ nxc n (V 0) a ↔ a ∈ nxc n (V 1) b := by
  rw [mem_nxc, mem_nxc]
  constructor
  · rintro ⟨h1, h2, h3⟩
    exact ⟨h2, h1, (h.prev a h1 b h2).2 ((h.next a h1 b h2).1 h3)⟩
  · rintro ⟨h1, h2, h3⟩
    exact ⟨h2, h1, (h.next a h2 b h1).2 ((h.prev a h2 b h1).1 h3)⟩
theorem thr_back (h : Ren n E u v L V) {a b : Nat} (k : Thr (nxc n (V 1)) L0 a b) : b = a ∨ Rs (Less E u v) b a := by
  induction k with
  | refl _ => exact .inl rfl
  | @tail b c _ e _ ih =>
    obtain ⟨h1, h2, h3⟩ := mem_nxc.1 e
    have e2 : Less E u v c b := (h.prev c h2 b h1).1 h3
    rcases ih with rfl | ih
    · exact .inr (.arc e2)
    · exact .inr ((Rs.arc e2).trans ih)
theorem ren_round (h : Ren n E u v L V) (hL0 : ∀ z, L0 z = true → z < n) {ns o o1 o2 t : List Nat} {x : Nat} (h1 : Dfs (nxl n (V 1)) ns L0 M0 o) (hall : ∀ z, L0 z = true → z ∈ o) (e : o = o1 ++ x :: o2) (hT : Todo (nxc n (V 1)) L0 L o2) (hx : L x = true) (hd : Dfs (nxl n (V 0)) [x] L M t) :
    (∀ y ∈ t, y < n) ∧ (∀ y ∈ t, L y = true) ∧ (∀ a b, a ∈ t → b ∈ t → a = b ∨ Rs (Less E u v) a b) ∧ (∀ y ∈ t, ∀ z, Less E u v y z → z ∉ t → L z = false) ∧ Todo (nxc n (V 1)) L0 M (x :: o2) ∧ ∀ z, M z = true ↔ (L z = true ∧ z ∉ t) := by
  have hLn : ∀ z, L z = true → z < n := fun z hz => hL0 z ((hT z).1 hz).1
  obtain ⟨q1, q2, q3⟩ := Todo.go (ren_turn h) (dfs_nxc h1 hL0) hall e hT hx (dfs_nxc hd hLn)
  have hl : ∀ y ∈ t, L y = true := fun y hy => ((hd.told.2 y).1 hy).1
  refine ⟨fun y hy => hLn y (hl y hy), hl, fun a b ha hb => ?_, fun y hy z e hz => ?_, q2, fun z => ?_⟩
  · have hab : Both (nxc n (V 1)) L0 a b := ((q1 a).1 ha).symm.trans ((q1 b).1 hb)
    exact (thr_back h hab.2)
  · cases ez : L z with
    | false => rfl
    | true =>
      have hzn := hLn z ez
      have hyn := hLn y (hl y hy)
      have hm : z ∈ nxc n (V 0) y := mem_nxc.2 ⟨hyn, hzn, (h.next y hyn z hzn).2 e⟩
      rcases q3 y hy z hm ((hT z).1 ez).1 with k | k
      · exact absurd k hz
      · rw [← ez, k]
  · constructor
    · intro hz
      refine ⟨hd.sub z hz, fun k => ?_⟩
      have := ((hd.told.2 z).1 k).2
      rw [hz] at this
      cases this
    · rintro ⟨k1, k2⟩
      cases em : M z with
      | true => rfl
      | false => exact absurd ((hd.told.2 z).2 ⟨k1, em⟩) k2
/-- A node that was met: nothing is to be done. -/
theorem ren_skip {o o1 o2 : List Nat} {x : Nat} {ns : List Nat} {pv : Nat → List Nat} (h1 : Dfs pv ns L0 M0 o) (e : o = o1 ++ x :: o2) {V1 : Nat → Nat} (hT : Todo (nxc n V1) L0 L o2) (hx : L x = false) : Todo (nxc n V1) L0 L (x :: o2) :=
  hT.skip hx ((h1.told.2 x).1 (by rw [e]; simp)).1
end Go.Proofs.YtakgepdlninnhaaDoor.Cs
