/-
  Contracts of small functions, several texts laid into one. Not a statement of the seat.
-/
import Derived.Test.YtimgdkafennohaaDl2
import Derived.Test.YtimgdkafennohaaHead3
import Derived.Test.YtimgdkafennohaaHead10
import Derived.Test.YtimgdkafennohaaLk7
namespace Go.Proofs.Ytimgdkafennohaa.Gr
open Go.ChangeShapes Go.WideShapes Go.ChangeAt Go.RowKit Base Ro F Dl
variable {w : World} {b m n k vm vc nc pc : Nat} {vp np pp : Option Addr}
def HeldP (v : Value) (w : World) (e : Ending) (w' : World) : Prop := e = .returned v ∧ Below w.heap.size w w'
theorem held_any (h : w.heap[b]? = some (grB (.slice vp vm vc) m (.slice np n nc) (.slice pp k pc))) : Calls Try.prog 38 #[.pointer (some ⟨b, 0, none⟩)] w (HeldP (.agg #[.slice vp vm vc, .int .i64 (m : Int), .slice np n nc, .slice pp k pc]) w) := by
  obtain ⟨h0, h1, h2, h3, _⟩ := gr_cells h
  have hlt := heap_lt h
  clear h
  go_enter Try.func38, Try.ntmps38
  go_wp2
  exact bodyPost_ret (results_cell_row Try.results38 _ _ w.heap.size _ _ _ _ rfl (heap_alloc_at _ _ _ rfl) Try.underlying51 rfl (by kernel_rfl)) rfl ⟨rfl, by go_grown⟩
theorem held_nil : Calls Try.prog 38 #[.pointer none] w (HeldP (.agg #[.slice none 0 0, .int .i64 0, .slice none 0 0, .slice none 0 0]) w) := by
  go_enter Try.func38, Try.ntmps38
  go_wp2
  exact bodyPost_ret (results_cell_row Try.results38 _ _ w.heap.size _ _ _ _ rfl (heap_alloc_at _ _ _ rfl) Try.underlying51 rfl (by kernel_rfl)) rfl ⟨rfl, by go_grown⟩
theorem fldG0 (p q r : Option Addr) (a b c d e f : Nat) (x : Int) (w : World) : (Instr.field 51 (.agg #[.slice p a b, .int .i64 x, .slice q c d, .slice r e f]) 0).run Try.prog w = .ok (.agg #[.slice p a b, .int .i64 x]) w := by kernel_rfl
theorem fldG1 (p q r : Option Addr) (a b c d e f : Nat) (x : Int) (w : World) : (Instr.field 51 (.agg #[.slice p a b, .int .i64 x, .slice q c d, .slice r e f]) 1).run Try.prog w = .ok (.slice q c d) w := by kernel_rfl
theorem fldL1 (p : Option Addr) (a b : Nat) (x : Int) (w : World) : (Instr.field 48 (.agg #[.slice p a b, .int .i64 x]) 1).run Try.prog w = .ok (.int .i64 x) w := by kernel_rfl
/-- A digraph's pointer, nil or not, and what is said of it: how many arcs, how many nodes. -/
def GrV (w : World) (pv : Value) (m n : Nat) : Prop := (pv = .pointer none ∧ m = 0 ∧ n = 0) ∨ ∃ b vp vm vc np nc pp k pc, pv = .pointer (some ⟨b, 0, none⟩) ∧ w.heap[b]? = some (grB (.slice vp vm vc) m (.slice np n nc) (.slice pp k pc))
theorem GrV.below {w w' : World} {pv : Value} {m n : Nat} (h : GrV w pv m n) (hb : Below w.heap.size w w') : GrV w' pv m n := by
  rcases h with h | ⟨b, vp, vm, vc, np, nc, pp, k, pc, h1, h2⟩
  · exact .inl h
  · exact .inr ⟨b, vp, vm, vc, np, nc, pp, k, pc, h1, (hb.block b (heap_lt h2)).trans h2⟩
theorem held_v {pv : Value} (h : GrV w pv m n) : ∃ vp vm vc np nc pp k pc, Calls Try.prog 38 #[pv] w (HeldP (.agg #[.slice vp vm vc, .int .i64 (m : Int), .slice np n nc, .slice pp k pc]) w) := by
  rcases h with ⟨rfl, rfl, rfl⟩ | ⟨b, vp, vm, vc, np, nc, pp, k, pc, rfl, h2⟩
  · exact ⟨none, 0, 0, none, 0, none, 0, 0, held_nil⟩
  · exact ⟨vp, vm, vc, np, nc, pp, k, pc, held_any h2⟩
theorem nodes_any {pv : Value} (h : GrV w pv m n) : Calls Try.prog 24 #[pv] w (HeldP (.int .i64 (n : Int)) w) := by
  obtain ⟨vp, vm, vc, np, nc, pp, k, pc, hh⟩ := held_v h
  have HH := Lib.hid hh
  have hf := fldG1 vp np pp vm vc n nc k pc (m : Int)
  clear hh h
  go_enter Try.func24, Try.ntmps24
  go_wp2_with fail
  refine HH.out.mono ?_
  rintro e w' ⟨rfl, hb⟩
  go_wp2
  go_ret
  exact ⟨rfl, hb⟩
theorem isNode_any {pv : Value} (h : GrV w pv m n) (x : Int) : Calls Try.prog 15 #[pv, .int .i64 x] w (HeldP (.bool (decide (0 ≤ x ∧ x < (n : Int)))) w) := by
  have HN := Lib.hid (nodes_any h)
  by_cases h0 : 0 ≤ x
  · have hd : decide (0 ≤ x ∧ x < (n : Int)) = decide (x < (n : Int)) := by simp [h0]
    rw [hd]
    clear h hd
    go_enter Try.func15, Try.ntmps15
    go_wp2_with fail
    refine HN.out.mono ?_
    rintro e w' ⟨rfl, hb⟩
    by_cases h1 : x < (n : Int)
    · go_wp2
      go_ret
      exact ⟨by rw [decide_eq_true h1]; rfl, hb⟩
    · go_wp2
      go_ret
      exact ⟨by rw [decide_eq_false (by omega)]; rfl, hb⟩
  · rw [decide_eq_false (by omega)]
    clear h
    go_enter Try.func15, Try.ntmps15
    go_wp2
    go_ret
    exact ⟨rfl, Below.refl _ _⟩
end Go.Proofs.Ytimgdkafennohaa.Gr
namespace Go.Proofs.Ytimgdkafennohaa.Gr
open Go.ChangeShapes Go.WideShapes Go.ChangeAt Go.RowKit Base Ro F Dl
theorem box_cell (W : World) (c : Array Value) (t : TypeId) (j : Nat) : (W.alloc (.cells c t)).cell? ⟨W.heap.size, j, none⟩ = c[j]? := by
  simp only [World.cell?, heap_alloc_at W (.cells c t) W.heap.size rfl]
  rfl
/-- An arc that is right where there are n nodes. -/
def rightA (n : Nat) (f t k l : Int) : Prop := (0 ≤ f ∧ f < (n : Int)) ∧ (0 ≤ t ∧ t < (n : Int)) ∧ (1 ≤ k ∧ k < 4) ∧ 0 ≤ l ∧ l ≤ 1048575
instance (n : Nat) (f t k l : Int) : Decidable (rightA n f t k l) := by unfold rightA; exact inferInstance
def arcV (f t k l : Int) : Value := .agg #[.int .i64 f, .int .i64 t, .int .i64 k, .int .i64 l]
set_option maxHeartbeats 2000000 in
set_option maxRecDepth 100000 in
theorem isRight_any {w : World} {m n : Nat} {pv : Value} (h : GrV w pv m n) (f t k l : Int) : Calls Try.prog 19 #[pv, .agg #[.int .i64 f, .int .i64 t, .int .i64 k, .int .i64 l]] w (HeldP (.bool (decide (rightA n f t k l))) w) := by
  have HN := Lib.hid (fun (X : World) (x : Int) (hb : Below w.heap.size w X) => isNode_any (h.below hb) x)
  have HBX : Hid (∀ o, Below w.heap.size w (w.alloc o)) := Lib.hid fun o => (Below.refl _ _).alloc (Nat.le_refl _) o
  clear h
  obtain ⟨b, hb⟩ : ∃ b, b = decide (rightA n f t k l) := ⟨_, rfl⟩
  rw [← hb]
  by_cases hf : 0 ≤ f ∧ f < (n : Int)
  · have H1 := Lib.hid (HN.out (w.alloc (.cells #[.int .i64 f, .int .i64 t, .int .i64 k, .int .i64 l] 32)) f (HBX.out _))
    rw [decide_eq_true hf] at H1
    have H2 := Lib.hid (fun X hX => HN.out X t hX)
    have hcells := box_cell w #[.int .i64 f, .int .i64 t, .int .i64 k, .int .i64 l] 32
    by_cases ht : 0 ≤ t ∧ t < (n : Int)
    · rw [decide_eq_true ht] at H2
      have hb2 : b = decide ((1 ≤ k ∧ k < 4) ∧ 0 ≤ l ∧ l ≤ 1048575) := by rw [hb]; unfold rightA; simp [hf, ht]
      clear hb HN hf ht
      go_enter Try.func19, Try.ntmps19
      go_wp2_with fail
      refine H1.out.mono ?_
      rintro e w1 ⟨rfl, h1⟩
      have c1 := (h1.cell (p := ⟨w.heap.size, 1, none⟩) (by simp)).trans (hcells 1)
      go_wp2_with fail
      have hb1 : Below w.heap.size w w1 := (HBX.out _).trans (h1.mono (HBX.out _).size)
      refine (H2.out w1 hb1).mono ?_
      rintro e w2 ⟨rfl, h2⟩
      have h12 := h1.trans (h2.mono h1.size)
      have c2 := (h12.cell (p := ⟨w.heap.size, 2, none⟩) (by simp)).trans (hcells 2)
      have c3 := (h12.cell (p := ⟨w.heap.size, 3, none⟩) (by simp)).trans (hcells 3)
      have HB := Lib.hid (hb1.trans (h2.mono hb1.size))
      clear H1 H2 HBX h12 hb1 h1 h2 hcells
      by_cases k1 : 1 ≤ k
      · by_cases k2 : k < 4
        · by_cases l1 : 0 ≤ l
          · by_cases l2 : l ≤ 1048575
            · rw [decide_eq_true ⟨⟨k1, k2⟩, l1, l2⟩] at hb2; subst hb2; go_wp2; go_ret; exact ⟨rfl, HB.out⟩
            · rw [decide_eq_false (by omega)] at hb2; subst hb2; go_wp2; go_ret; exact ⟨by show Ending.returned (.bool (decide (l ≤ 1048575))) = _; rw [decide_eq_false (by omega)], HB.out⟩
          · rw [decide_eq_false (by omega)] at hb2; subst hb2; go_wp2; go_ret; exact ⟨rfl, HB.out⟩
        · rw [decide_eq_false (by omega)] at hb2; subst hb2; go_wp2; go_ret; exact ⟨rfl, HB.out⟩
      · rw [decide_eq_false (by omega)] at hb2; subst hb2; go_wp2; go_ret; exact ⟨rfl, HB.out⟩
    · rw [decide_eq_false ht] at H2
      have hb2 : b = false := by rw [hb]; unfold rightA; simp [ht]
      clear hb HN hf ht
      go_enter Try.func19, Try.ntmps19
      go_wp2_with fail
      refine H1.out.mono ?_
      rintro e w1 ⟨rfl, h1⟩
      have c1 := (h1.cell (p := ⟨w.heap.size, 1, none⟩) (by simp)).trans (hcells 1)
      go_wp2_with fail
      have hb1 : Below w.heap.size w w1 := (HBX.out _).trans (h1.mono (HBX.out _).size)
      refine (H2.out w1 hb1).mono ?_
      rintro e w2 ⟨rfl, h2⟩
      have HB := Lib.hid (hb1.trans (h2.mono hb1.size))
      clear H1 H2 HBX hb1 h1 h2 hcells
      subst hb2
      go_wp2
      go_ret
      exact ⟨rfl, HB.out⟩
  · have H1 := Lib.hid (HN.out (w.alloc (.cells #[.int .i64 f, .int .i64 t, .int .i64 k, .int .i64 l] 32)) f (HBX.out _))
    rw [decide_eq_false hf] at H1
    have hb2 : b = false := by rw [hb]; unfold rightA; simp [hf]
    clear hb HN hf
    subst hb2
    go_enter Try.func19, Try.ntmps19
    go_wp2_with fail
    refine H1.out.mono ?_
    rintro e w1 ⟨rfl, h1⟩
    have HB := Lib.hid ((HBX.out _).trans (h1.mono (HBX.out _).size))
    clear H1 HBX h1
    go_wp2
    go_ret
    exact ⟨rfl, HB.out⟩
end Go.Proofs.Ytimgdkafennohaa.Gr
namespace Go.Proofs.Ytimgdkafennohaa.Gr
open Go.ChangeShapes Go.WideShapes Go.ChangeAt Go.RowKit Base Ro F Dl Ln
/-- A digraph of n nodes whose list holds xs and whose links are as the counts say (true: next; false: prev). -/
structure GS (w : World) (B b n : Nat) (xs : List Nat) (nbs : Bool → Nat) (Vs : Bool → Nat → Value) (cnt : Bool → Nat → Nat → Nat → Int) : Prop where
  hB : B ≤ w.heap.size
  own : ∃ V, w.heap[b]? = some (grB V xs.length (.slice (some ⟨nbs true, 0, none⟩) n n) (.slice (some ⟨nbs false, 0, none⟩) n n)) ∧ LsAt w B V xs
  good : GoodX xs
  row : ∀ s, w.heap[nbs s]? = some (.cells ((List.range n).map (Vs s)).toArray 45 (0, 0))
  lk : ∀ s a, a < n → OwnK B w (Vs s a) (canK (cnt s a) (List.range n))
  ne : nbs true ≠ nbs false
  apart : ∀ s a s' a', a < n → a' < n → (s ≠ s' ∨ a ≠ a') → ∀ g, (Vs s a).ownBlock = some g → (Vs s' a').ownBlock ≠ some g
  bnd : ∀ s a c k, 0 ≤ cnt s a c k ∧ cnt s a c k ≤ 1000000
theorem own_kind {w : World} {B size n : Nat} {e : TypeId} {v : Value} {xs : List Value} (h : w.ownsRow B e size v n xs) {g : Nat} (hg : v.ownBlock = some g) : ∃ cur, w.heap[g]? = some (.cells cur e (0, 0)) := by
  rcases h.2 with ⟨rfl, _⟩ | ⟨g', C', cur, rfl, _, h3, _⟩
  · simp [Value.ownBlock] at hg
  · have : g' = g := by simpa [Value.ownBlock] using hg
    exact this ▸ ⟨cur, h3⟩
/-- A list's blocks, where no block of numbers was turned. -/
theorem ls_same {w w' : World} {B : Nat} {V : Value} {xs : List Nat} (h : LsAt w B V xs) (hk : ∀ (g : Nat) (cs : Array Value) (T : TypeId), w.heap[g]? = some (Obj.cells cs T (0, 0)) → (T = 56 ∨ T = 78) → w'.heap[g]? = w.heap[g]?) : LsAt w' B V xs := by
  rcases h with ⟨h1, h2⟩ | ⟨h1, g, cap, h2, h3⟩
  · exact .inl ⟨h1, own_any h2 fun k hk' => by obtain ⟨cur, hc⟩ := own_kind h2 hk'; exact hk _ _ _ hc (.inr rfl)⟩
  · exact .inr ⟨h1, g, cap, own_any h2 fun k hk' => (by obtain ⟨cur, hc⟩ := own_kind h2 hk'; exact hk _ _ _ hc (.inr rfl)), own_any h3 fun k hk' => (by obtain ⟨cur, hc⟩ := own_kind h3 hk'; exact hk _ _ _ hc (.inl rfl))⟩
theorem GS.below {w w' : World} {B b n : Nat} {xs : List Nat} {nbs : Bool → Nat} {Vs : Bool → Nat → Value} {cnt : Bool → Nat → Nat → Nat → Int} (h : GS w B b n xs nbs Vs cnt) (hb : Below w.heap.size w w') : GS w' B b n xs nbs Vs cnt := by
  obtain ⟨V, h1, h2⟩ := h.own
  refine ⟨by have := h.hB; have := hb.size; omega, ⟨V, (hb.block b (heap_lt h1)).trans h1, ls_same h2 fun g cs T hg _ => hb.block g (heap_lt hg)⟩, h.good, fun s => (hb.block _ (heap_lt (h.row s))).trans (h.row s), fun s a ha => own_any (h.lk s a ha) fun k hk => ?_, h.ne, h.apart, h.bnd⟩
  obtain ⟨cur, hc⟩ := own_kind (h.lk s a ha) hk
  exact hb.block k (heap_lt hc)
/-- What a put or a drop leaves. -/
theorem GS.lst {w w' : World} {B b n : Nat} {xs xs' : List Nat} {nbs : Bool → Nat} {Vs : Bool → Nat → Value} {cnt : Bool → Nat → Nat → Nat → Int} (h : GS w B b n xs nbs Vs cnt) {V' : Value} (h1 : w'.heap[b]? = some (grB V' xs'.length (.slice (some ⟨nbs true, 0, none⟩) n n) (.slice (some ⟨nbs false, 0, none⟩) n n))) (h2 : LsAt w' B V' xs') (hg : GoodX xs') (hf : Fr (LF w B b) w w') : GS w' B b n xs' nbs Vs cnt := by
  obtain ⟨V, k1, k2⟩ := h.own
  have key : ∀ (g : Nat) (cs : Array Value) (T : TypeId), w.heap[g]? = some (Obj.cells cs T (0, 0)) → (T = 45 ∨ T = 73) → w'.heap[g]? = w.heap[g]? := fun g cs T hgg hT => by
    refine hf.block (heap_lt hgg) (fun hh => ?_)
    rcases hh with rfl | ⟨_, cs', T', h6, h7⟩
    · rw [hgg] at k1
      have : T = 51 := by simp only [grB, Option.some.injEq, Obj.cells.injEq] at k1; exact k1.2.1
      rcases hT with hT | hT <;> rw [hT] at this <;> exact absurd this (by decide)
    · rw [hgg] at h6
      have : T = T' := by simp only [Option.some.injEq, Obj.cells.injEq] at h6; exact h6.2.1
      rcases hT with hT | hT <;> rcases h7 with h7 | h7 <;> rw [hT, h7] at this <;> exact absurd this (by decide)
  refine ⟨by have := h.hB; have := hf.2.2.2.1; omega, ⟨V', h1, h2⟩, hg, fun s => (key _ _ _ (h.row s) (.inl rfl)).trans (h.row s), fun s a ha => own_any (h.lk s a ha) fun k hk => ?_, h.ne, h.apart, h.bnd⟩
  obtain ⟨cur, hc⟩ := own_kind (h.lk s a ha) hk
  exact key _ _ _ hc (.inr rfl)
theorem range_set (f : Nat → Value) (n a : Nat) (v : Value) : ((List.range n).map f).toArray.setIfInBounds a v = ((List.range n).map (fun j => if j = a then v else f j)).toArray := by
  apply Array.ext
  · simp
  · intro i h1 h2
    rw [Array.getElem_setIfInBounds (by simpa using h2)]
    by_cases hi : i = a
    · rw [if_pos hi.symm]; simp [hi]
    · rw [if_neg (fun e => hi e.symm)]; simp [hi]
def updV (Vs : Bool → Nat → Value) (s : Bool) (a : Nat) (V : Value) : Bool → Nat → Value := fun s' a' => if s' = s ∧ a' = a then V else Vs s' a'
def updC (cnt : Bool → Nat → Nat → Nat → Int) (s : Bool) (a c k : Nat) (v : Int) : Bool → Nat → Nat → Nat → Int := fun s' a' => if s' = s ∧ a' = a then upd (cnt s a) c k v else cnt s' a'
theorem updV_at (Vs : Bool → Nat → Value) (s : Bool) (a : Nat) (V : Value) : updV Vs s a V s a = V := by simp [updV]
theorem updV_row (Vs : Bool → Nat → Value) (s : Bool) (a : Nat) (V : Value) : updV Vs s a V s = fun j => if j = a then V else Vs s j := by funext j; simp [updV]
theorem updV_other (Vs : Bool → Nat → Value) {s s' : Bool} (a : Nat) (V : Value) (h : s' ≠ s) : updV Vs s a V s' = Vs s' := by funext j; simp [updV, h]
/-- What a change of a node's links leaves. -/
theorem GS.chg {w w' : World} {B b n : Nat} {xs : List Nat} {nbs : Bool → Nat} {Vs : Bool → Nat → Value} {cnt : Bool → Nat → Nat → Nat → Int} (h : GS w B b n xs nbs Vs cnt) {s : Bool} {a c k : Nat} {v : Int} (ha : a < n) (hv : 0 ≤ v ∧ v ≤ 1000000) {e : Ending}
    (hp : ChgP B (nbs s) a (Vs s a) (canK (upd (cnt s a) c k v) (List.range n)) w e w') : e = .returned (.tuple #[]) ∧ ∃ V', GS w' B b n xs nbs (updV Vs s a V') (updC cnt s a c k v) := by
  obtain ⟨rfl, V', ho, hat, hrow, hf⟩ := hp
  obtain ⟨V, k1, k2⟩ := h.own
  refine ⟨rfl, V', ?_⟩
  -- a block of another kind stays
  have hkn : ∀ (g : Nat) (cs : Array Value) (T : TypeId), w.heap[g]? = some (Obj.cells cs T (0, 0)) → T ≠ 45 → T ≠ 73 → w'.heap[g]? = w.heap[g]? := fun g cs T hg h1 h2 => by
    refine hf.block (heap_lt hg) (fun hh => ?_)
    rcases hh with hh | rfl
    · obtain ⟨cur, hc⟩ := own_kind (h.lk s a ha) hh
      rw [hg] at hc
      simp only [Option.some.injEq, Obj.cells.injEq] at hc
      exact h2 hc.2.1
    · have hr := h.row s
      rw [hg] at hr
      simp only [Option.some.injEq, Obj.cells.injEq] at hr
      exact h1 hr.2.1
  have hoth : ∀ s' a', a' < n → (s' ≠ s ∨ a' ≠ a) → ∀ g, (Vs s' a').ownBlock = some g → w'.heap[g]? = w.heap[g]? := fun s' a' ha' hne g hg => by
    obtain ⟨cur, hc⟩ := own_kind (h.lk s' a' ha') hg
    refine hf.block (heap_lt hc) (fun hh => ?_)
    rcases hh with hh | rfl
    · exact h.apart s' a' s a ha' ha hne g hg hh
    · have hr := h.row s
      rw [hc] at hr
      simp only [Option.some.injEq, Obj.cells.injEq] at hr
      exact absurd hr.2.1 (by decide)
  refine ⟨by have := h.hB; have := hf.2.2.2.1; omega, ⟨V, (hkn b _ _ k1 (by decide) (by decide)).trans k1, ls_same k2 fun g cs T hg hT => hkn g cs T hg (by rcases hT with hT | hT <;> rw [hT] <;> decide) (by rcases hT with hT | hT <;> rw [hT] <;> decide)⟩, h.good, fun s' => ?_, fun s' a' ha' => ?_, h.ne, fun s1 a1 s2 a2 h1 h2 hne g hg1 hg2 => ?_, fun s' a' c' k' => ?_⟩
  · by_cases hs : s' = s
    · subst hs
      rw [hrow, updV_row, ← range_set]
      simp only [World.setCell, Array.getElem?_modify, if_true, h.row s', Option.map_some]
      rfl
    · rw [updV_other Vs a V' hs]
      have hnn : nbs s' ≠ nbs s := fun e => by
        have := h.ne
        cases s <;> cases s' <;> simp_all
      refine (hf.block (heap_lt (h.row s')) (fun hh => ?_)).trans (h.row s')
      rcases hh with hh | hh
      · obtain ⟨cur, hc⟩ := own_kind (h.lk s a ha) hh
        rw [h.row s'] at hc
        simp only [Option.some.injEq, Obj.cells.injEq] at hc
        exact absurd hc.2.1 (by decide)
      · exact hnn hh
  · by_cases hs : s' = s ∧ a' = a
    · obtain ⟨rfl, rfl⟩ := hs
      rw [updV_at]
      simp only [updC, and_self, if_true]
      exact ho
    · simp only [updC, updV, if_neg hs]
      exact own_any (h.lk s' a' ha') (hoth s' a' ha' (by by_cases h1 : s' = s; exact .inr (fun h2 => hs ⟨h1, h2⟩); exact .inl h1))
  · have fresh : ∀ s' a', a' < n → ¬ (s' = s ∧ a' = a) → V'.ownBlock = some g → (Vs s' a').ownBlock = some g → False := fun s' a' ha' hs hV hg => by
      obtain ⟨cur, hc⟩ := own_kind (h.lk s' a' ha') hg
      rcases hat with he | ⟨g', he, hsz⟩
      · exact h.apart s' a' s a ha' ha (by by_cases h1 : s' = s; exact .inr (fun h2 => hs ⟨h1, h2⟩); exact .inl h1) g hg (by rw [← he]; exact hV)
      · rw [he] at hV
        have := Option.some.inj hV
        have := heap_lt hc
        omega
    by_cases e1 : s1 = s ∧ a1 = a
    · have e2 : ¬ (s2 = s ∧ a2 = a) := fun e2 => by
        rcases hne with hn | hn
        · exact hn (e1.1.trans e2.1.symm)
        · exact hn (e1.2.trans e2.2.symm)
      simp only [updV, if_pos e1] at hg1
      simp only [updV, if_neg e2] at hg2
      exact fresh s2 a2 h2 e2 hg1 hg2
    · simp only [updV, if_neg e1] at hg1
      by_cases e2 : s2 = s ∧ a2 = a
      · simp only [updV, if_pos e2] at hg2
        exact fresh s1 a1 h1 e1 hg2 hg1
      · simp only [updV, if_neg e2] at hg2
        exact h.apart s1 a1 s2 a2 h1 h2 hne g hg1 hg2
  · unfold updC
    split
    · unfold upd
      split
      · exact hv
      · exact h.bnd s a c' k'
    · exact h.bnd s' a' c' k'
/-- Change, called at a node of a digraph. -/
theorem chg_call {w : World} {B b n : Nat} {xs : List Nat} {nbs : Bool → Nat} {Vs : Bool → Nat → Value} {cnt : Bool → Nat → Nat → Nat → Int} (h : GS w B b n xs nbs Vs cnt) (hn : n ≤ 4096) (s : Bool) {a c k : Nat} {v by_ : Int} (ha : a < n) (hc : c < n) (hk : k < 4) (hv : v = cnt s a c k + by_) (hby : by_ = 1 ∨ by_ = -1 ∧ 0 < cnt s a c k) (hv2 : 0 ≤ v ∧ v ≤ 1000000) :
    Calls Try.prog 23 #[.pointer (some ⟨nbs s, a, none⟩), .int .i64 (c : Int), .int .i64 (k : Int), .int .i64 by_] w fun e w' => e = .returned (.tuple #[]) ∧ ∃ V', GS w' B b n xs nbs (updV Vs s a V') (updC cnt s a c k v) := by
  have hr := h.row s
  have hV : w.cell? ⟨nbs s, a, none⟩ = some (Vs s a) := by simp [World.cell?, hr, ha]
  have hfz : w.frozen? ⟨nbs s, a, none⟩ = false := by simp [World.frozen?, hr]
  have hnb : (Vs s a).ownBlock ≠ some (nbs s) := fun e => by
    obtain ⟨cur, hc⟩ := own_kind (h.lk s a ha) e
    rw [hr] at hc
    simp only [Option.some.injEq, Obj.cells.injEq] at hc
    exact absurd hc.2.1 (by decide)
  exact (change_any w hV (heap_lt hr) (h.lk s a ha) (by omega) hc hk (h.bnd s a) hv hby hnb hfz h.hB).mono fun e w' hp => h.chg ha hv2 hp
end Go.Proofs.Ytimgdkafennohaa.Gr
