/-
  Contracts of small functions, several texts laid into one. Not a statement of the seat.
-/
import Derived.Test.YtakgepdlninnhaaDoorHead3
import Derived.Test.YtakgepdlninnhaaDoorHead24
import Derived.Test.YtakgepdlninnhaaDoorRowList
import Derived.Deep.RegionHeld3
import Derived.LoopTactic
import Derived.Carry
namespace Go.Proofs.YtakgepdlninnhaaDoor.Sc
open Go.ChangeShapes Go.WideShapes Go.ChangeAt Go.RowKit Base F Bits
/-- n ints that f tells. -/
def intsF (n : Nat) (f : Nat → Nat) : Array Value := ((List.range n).map fun i => Value.int .i64 (f i : Nat)).toArray
theorem intsF_at {n : Nat} {f : Nat → Nat} {i : Nat} (h : i < n) : (intsF n f)[i]? = some (.int .i64 (f i : Nat)) := by
  unfold intsF
  simp [h]
theorem intsF_put {n : Nat} {f : Nat → Nat} {i x : Nat} (h : i < n) : (intsF n f).setIfInBounds i (.int .i64 (x : Nat)) = intsF n (put f i x) := by
  apply Array.ext_getElem?
  intro k
  rw [Array.getElem?_setIfInBounds]
  unfold intsF put
  by_cases e : i = k
  · subst e
    simp [h]
  · by_cases hk : k < n
    · simp [hk, e, Ne.symm e]
    · simp [hk, e]
theorem intsF_zero (n : Nat) : madeCells #[.int .i64 0] n = intsF n (fun _ => 0) := by
  unfold madeCells intsF
  apply Array.ext_getElem?
  intro k
  simp
  by_cases h : k < n
  · simp [h, Nat.mod_one]
  · simp [h]
theorem intsF_ext {n : Nat} {f g : Nat → Nat} (h : ∀ i, i < n → f i = g i) : intsF n f = intsF n g := by
  unfold intsF
  congr 1
  refine List.map_congr_left fun i hi => ?_
  rw [h i (List.mem_range.1 hi)]
theorem intsF_list (n : Nat) (f : Nat → Nat) : intsF n f = (((List.range n).map fun i => (f i : Int)).map (Value.int .i64)).toArray := by
  unfold intsF
  rw [List.map_map]
  rfl
/-- Where a finder's parts lie. -/
structure Blk where
  b : Nat
  bn : Nat
  bl : Nat
  bs : Nat
  br : Nat
  bw : Nat
  bL : Nat
def natI (l : List Nat) : List Int := l.map fun (x : Nat) => (x : Int)
/-- The blocks that a finder's calls turn. -/
def FF (k : Blk) (o : Option Nat) (g : Nat) : Prop := g = k.b ∨ g = k.bn ∨ g = k.bl ∨ g = k.bs ∨ g = k.br ∨ g = k.bw ∨ g = k.bL ∨ o = some g
section
variable {B : Nat} {k : Blk} {n : Nat} {fv : Value} {W W' : World} {o : Option Nat} {s : St}
theorem set_self {W : World} {g i : Nat} {x : Value} {cs : Array Value} {T : TypeId} (h : W.heap[g]? = some (.cells cs T)) : (W.setCell ⟨g, i, none⟩ x).heap[g]? = some (.cells (cs.setIfInBounds i x) T) := by
  simp only [World.setCell, Array.getElem?_modify, if_true, h, Option.map_some]
  rfl
theorem setO {W : World} {g g' i : Nat} {x : Value} (h : g' ≠ g) : (W.setCell ⟨g, i, none⟩ x).heap[g']? = W.heap[g']? := Below.heap_setCell _ _ _ _ h
theorem size_set {W : World} {g i : Nat} {x : Value} : (W.setCell ⟨g, i, none⟩ x).heap.size = W.heap.size := by simp [World.setCell]
theorem ff_mv {o' : Option Nat} (h : Mv o o' W) : ∀ g, g < W.heap.size → FF k o' g → FF k o g := by
  rintro g hg (rfl | rfl | rfl | rfl | rfl | rfl | rfl | hq)
  all_goals try (unfold FF; simp; done)
  rcases h with rfl | ⟨g', rfl, hg'⟩
  · unfold FF; simp [hq]
  · simp at hq; omega
theorem natI_snoc (l : List Nat) (x : Nat) : natI (x :: l).reverse = natI l.reverse ++ [(x : Int)] := by simp [natI]
/-- One is put on the stack: the row does not know yet. -/
theorem nodup_len : ∀ (n : Nat) (l : List Nat), l.Nodup → (∀ x ∈ l, x < n) → l.length ≤ n
  | 0, l, _, h => by
    rcases l with _ | ⟨a, l⟩
    · simp
    · exact absurd (h a List.mem_cons_self) (by omega)
  | n + 1, l, hd, h => by
    have h1 := nodup_len n (l.filter fun x => !(x == n)) (hd.sublist List.filter_sublist) (fun x hx => by
      rw [List.mem_filter] at hx
      have := h x hx.1
      have h2 := hx.2
      simp at h2
      omega)
    have h3 : (l.filter fun x => x == n).length ≤ 1 := by
      have hd2 : (l.filter fun x => x == n).Nodup := hd.sublist List.filter_sublist
      have ha : ∀ x ∈ l.filter fun x => x == n, x = n := fun x hx => by
        rw [List.mem_filter] at hx
        simpa using hx.2
      revert hd2 ha
      generalize (l.filter fun x => x == n) = m
      intro hd2 ha
      match m, hd2, ha with
      | [], _, _ => simp
      | [_], _, _ => simp
      | a :: b :: m, hd2, ha =>
        have e1 := ha a List.mem_cons_self
        have e2 := ha b (List.mem_cons_of_mem _ List.mem_cons_self)
        rw [List.nodup_cons] at hd2
        exact absurd (by rw [e1, e2]; exact List.mem_cons_self) hd2.1
    have h4 : (l.filter fun x => x == n).length + (l.filter fun x => !(x == n)).length = l.length := by
      clear h h1 h3 hd
      induction l with
      | nil => rfl
      | cons a l ih =>
        rw [List.filter_cons, List.filter_cons]
        cases e : (a == n) with
        | true => rw [if_pos rfl, if_neg (by decide), List.length_cons, List.length_cons]; omega
        | false =>
          have h0 : (!false) = true := rfl
          rw [if_neg (by decide), if_pos h0, List.length_cons, List.length_cons]; omega
    omega
theorem inv_nodup {nx : Nat → List Nat} (h : Inv nx s) : s.opn.Nodup := h.dec.imp fun {a b} hab e => by rw [e] at hab; omega
end
section
variable {B : Nat} {k : Blk} {n : Nat} {fv : Value} {W W1 W2 : World} {o o1 : Option Nat} {s : St}
theorem testBit_flip (V x y : Nat) : (V ^^^ 2 ^ x).testBit y = if y = x then !V.testBit y else V.testBit y := by
  rw [Nat.testBit_xor, Nat.testBit_two_pow]
  by_cases e : y = x
  · subst e; simp
  · simp [e, Ne.symm e]
end
end Go.Proofs.YtakgepdlninnhaaDoor.Sc
namespace Go.Proofs.YtakgepdlninnhaaDoor.Sc
open Go.ChangeShapes Go.WideShapes Go.ChangeAt Go.RowKit Base F Bits
variable {B : Nat} {k : Blk} {n : Nat} {fv : Value} {W : World} {o : Option Nat} {s : St}
theorem ints_cell {g n : Nat} {f : Nat → Nat} {T : TypeId} {W : World} (h : W.heap[g]? = some (.cells (intsF n f) T)) {v : Nat} (hv : v < n) : W.cell? ⟨g, v, none⟩ = some (.int .i64 (f v : Nat)) ∧ W.frozen? ⟨g, v, none⟩ = false := by
  constructor
  · simp only [World.cell?, h]
    simpa using intsF_at (f := f) hv
  · simp [World.frozen?, h]
end Go.Proofs.YtakgepdlninnhaaDoor.Sc
namespace Go.Proofs.YtakgepdlninnhaaDoor.Sc
open Go.ChangeShapes Go.WideShapes Go.ChangeAt Go.RowKit Base F Bits
theorem fold_min : ∀ (l : List Int) (a : Int), (l.foldl min a = a ∨ l.foldl min a ∈ l) ∧ l.foldl min a ≤ a ∧ ∀ x ∈ l, l.foldl min a ≤ x
  | [], a => ⟨.inl rfl, Int.le_refl _, fun x hx => by cases hx⟩
  | y :: l, a => by
    obtain ⟨h1, h2, h3⟩ := fold_min l (min a y)
    rw [List.foldl_cons]
    refine ⟨?_, by omega, fun x hx => ?_⟩
    · rcases h1 with h1 | h1
      · rw [h1]
        rcases (show min a y = a ∨ min a y = y by omega) with e | e
        · exact .inl e
        · rw [e]; exact .inr List.mem_cons_self
      · exact .inr (List.mem_cons_of_mem _ h1)
    · rcases List.mem_cons.1 hx with rfl | hx
      · omega
      · exact h3 x hx
theorem minOf_nat (X : List Nat) (h : X ≠ []) : Lib.minOf (natI X) = ((minL X : Nat) : Int) := by
  have hm := minL_mem X h
  have hl := minL_le X
  have key : Lib.minOf (natI X) ∈ natI X ∧ ∀ x ∈ natI X, Lib.minOf (natI X) ≤ x := by
    unfold Lib.minOf
    rcases X with _ | ⟨a, X⟩
    · exact absurd rfl h
    · obtain ⟨h1, h2, h3⟩ := fold_min (natI (a :: X)) ((natI (a :: X)).headD 0)
      refine ⟨?_, h3⟩
      rcases h1 with h1 | h1
      · rw [h1]; simp [natI]
      · exact h1
  obtain ⟨k1, k2⟩ := key
  unfold natI at k1 k2
  obtain ⟨y, hy, e⟩ := List.mem_map.1 k1
  have h1 := hl y hy
  have h2 := k2 _ (List.mem_map.2 ⟨minL X, hm, rfl⟩)
  rw [show natI X = X.map fun (x : Nat) => (x : Int) from rfl]
  omega
theorem ownI_same {B : Nat} {w w' : World} {v : Value} {zs : List Int} (h : Lst.OwnI B w v zs) (hb : ∀ g, v.ownBlock = some g → w'.heap[g]? = w.heap[g]?) : Lst.OwnI B w' v zs := by
  refine ⟨h.1, ?_⟩
  rcases h.2 with hn | ⟨g, cap, cur, rfl, hB, hg, rest⟩
  · exact .inl hn
  · exact .inr ⟨g, cap, cur, rfl, hB, (hb g rfl).trans hg, rest⟩
def lenV : Value → Nat
  | .slice _ n _ => n
  | _ => 0
section
variable {B : Nat} {k : Blk} {n : Nat} {fv : Value} {W : World} {o : Option Nat} {s : St} {X rest : List Nat} {v : Nat}
end
end Go.Proofs.YtakgepdlninnhaaDoor.Sc
namespace Go.Proofs.YtakgepdlninnhaaDoor.Sc
open Go.ChangeShapes Go.WideShapes Go.ChangeAt Go.RowKit Base F Bits
variable {B : Nat} {k : Blk} {n : Nat} {fv : Value} {W : World} {o : Option Nat} {s : St} {X rest : List Nat} {v : Nat}
theorem natI_len (l : List Nat) : (natI l).length = l.length := by simp [natI]
theorem natI_getD (l : List Nat) (j : Nat) : (natI l).getD j 0 = ((l.getD j 0 : Nat) : Int) := by
  unfold natI
  rw [List.getD_eq_getElem?_getD, List.getD_eq_getElem?_getD, List.getElem?_map]
  cases l[j]? <;> rfl
theorem slice_form {w : World} {l : Value} {zs : List Int} {B : Nat} (h : Lst.OwnI B w l zs) (hz : zs ≠ []) : ∃ g c, l = .slice (some ⟨g, 0, none⟩) zs.length c := by
  rcases h.form with ⟨h1, _⟩ | ⟨g, c, h1, _⟩
  · exact absurd h1 hz
  · exact ⟨g, c, h1⟩
end Go.Proofs.YtakgepdlninnhaaDoor.Sc
namespace Go.Proofs.YtakgepdlninnhaaDoor.Sc
open Go.ChangeShapes Go.WideShapes Go.ChangeAt Go.RowKit Base F Bits
/-- What a call that tells a list of numbers leaves. -/
def NumN (w : World) (zs : List Int) (e : Ending) (w' : World) : Prop := ∃ v, e = .returned v ∧ Lst.OwnI w.heap.size w' v zs ∧ Below w.heap.size w w'
/-- A function value tells where a node's arcs go. -/
structure NxOk (W0 : World) (n : Nat) (F : Nat) (lb : Array Value) (nx : Nat → List Nat) : Prop where
  run : ∀ args w, (callFunc F args).run Tryd.prog w = .ok (.enter F args) w
  call : ∀ W (v : Nat), v < n → Below W0.heap.size W0 W → Calls Tryd.prog F (#[.int .i64 (v : Int)] ++ lb) W (NumN W (natI (nx v)))
  lt : ∀ v, v < n → ∀ t ∈ nx v, t < n
  len : ∀ v, v < n → (nx v).length ≤ 1000000
variable {W0 : World} {k : Blk} {n : Nat} {F : Nat} {lb : Array Value} {nx : Nat → List Nat}
def fnV (F : Nat) (lb : Array Value) : Value := .func (.func F) #[] lb
theorem natI_nat {l : List Nat} {j : Nat} (h : j < l.length) : (natI l).getD j 0 = ((l[j] : Nat) : Int) := by
  rw [natI_getD, List.getD_eq_getElem?_getD, List.getElem?_eq_getElem h]
  rfl
end Go.Proofs.YtakgepdlninnhaaDoor.Sc
namespace Go.Proofs.YtakgepdlninnhaaDoor.Sc
open Go.ChangeShapes Go.WideShapes Go.ChangeAt Go.RowKit Base F Bits
def st0 : St := ⟨0, fun _ => 0, fun _ => 0, [], fun _ => 0⟩
def rowLen' (n : Int) : Nat := Bits.rowLen n
def CF (w : World) (g : Nat) (o : Obj) (u : World) : Prop := w.heap.size ≤ g ∧ u.heap[g]? = some o
def RF_ (w : World) (g h n : Nat) (u : World) : Prop := (w.heap.size ≤ g ∧ w.heap.size ≤ h) ∧ RowAt u g h n 0
theorem CF.below {w u u' : World} {g : Nat} {o : Obj} (h : CF w g o u) (hb : Below u.heap.size u u') : CF w g o u' := ⟨h.1, (hb.block g (heap_lt h.2)).trans h.2⟩
theorem CF.lt {w u : World} {g : Nat} {o : Obj} (h : CF w g o u) : g < u.heap.size := heap_lt h.2
theorem RF_.below {w u u' : World} {g k n : Nat} (h : RF_ w g k n u) (hb : Below u.heap.size u u') : RF_ w g k n u' := ⟨h.1, h.2.below hb⟩
theorem CF.new {w U u : World} {g : Nat} {o : Obj} (hs : w.heap.size ≤ U.heap.size) (hg : g = U.heap.size) (hu : u = U.alloc o) : CF w g o u := by
  subst hg hu
  exact ⟨hs, heap_alloc_at _ _ _ rfl⟩
theorem RF_.new {w U u : World} {g n : Nat} (hs : w.heap.size ≤ U.heap.size) (hg : g = U.heap.size) (h : RowAt u (g + 1) g n 0) : RF_ w (g + 1) g n u := ⟨⟨by omega, by omega⟩, h⟩
theorem hbt {w U u : World} (h : Below w.heap.size w U) (hb : Below U.heap.size U u) : Below w.heap.size w u := h.trans (hb.mono h.size)
end Go.Proofs.YtakgepdlninnhaaDoor.Sc
