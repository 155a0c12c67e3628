/-
  Contracts of small functions, several texts laid into one. Not a statement of the seat.
-/
import Derived.Test.YtakgepdlninnhaaDoorCsR1
import Derived.Test.YtakgepdlninnhaaDoorHead14
import Derived.Test.YtakgepdlninnhaaDoorHead20
import Derived.Test.YtakgepdlninnhaaDoorHead28
import Derived.Test.YtakgepdlninnhaaDoorLstSame
namespace Go.Proofs.YtakgepdlninnhaaDoor.Cs
open Go.ChangeShapes Go.WideShapes Go.ChangeAt Go.RowKit Base F Bits Df Cl Sc Gr
/-- The pairs' numbers. -/
def prs (q : List Pai) : List (Int × Int) := q.map fun p => (p.k, p.v)
/-- The document's row of a node. -/
def rowD (q : List Pai) (x : Int) : List Int := reachR (arcsP (prs q)) x
/-- All are of so many nodes. -/
def Rng (n : Nat) (q : List Pai) : Prop := ∀ p ∈ q, (0 ≤ p.k ∧ p.k < (n : Int)) ∧ 0 ≤ p.v ∧ p.v < (n : Int)
theorem beq_iff {p : Pai} {u v : Int} : Pai.beq p ⟨u, v⟩ = true ↔ p = ⟨u, v⟩ := Pai.beq_iff p ⟨u, v⟩
theorem cntP_pos {q : List Pai} {u v : Int} : 0 < cntP q u v ↔ (⟨u, v⟩ : Pai) ∈ q := by
  unfold cntP
  rw [List.length_pos_iff_exists_mem]
  constructor
  · rintro ⟨p, hp⟩
    obtain ⟨h1, h2⟩ := List.mem_filter.1 hp
    rw [← beq_iff.1 h2]
    exact h1
  · intro h
    exact ⟨_, List.mem_filter.2 ⟨h, beq_iff.2 rfl⟩⟩
theorem mem_prs {q : List Pai} {u v : Int} : (u, v) ∈ prs q ↔ (⟨u, v⟩ : Pai) ∈ q := by
  unfold prs
  rw [List.mem_map]
  constructor
  · rintro ⟨p, hp, e⟩
    injection e with e1 e2
    subst e1 e2
    exact hp
  · exact fun h => ⟨_, h, rfl⟩
theorem rises_step {out : List Int} {x : Arc} (h : Rf.Rises out) : Rf.Rises (stepA out x) := by
  unfold stepA
  split
  · exact Rf.rises_putF _ h
  · exact h
theorem rises_pass : ∀ (l : List Arc) {out : List Int}, Rf.Rises out → Rf.Rises (l.foldl stepA out)
  | [], _, h => h
  | _ :: l, _, h => rises_pass l (rises_step h)
theorem rises_runs {l : List Arc} : ∀ (k : Nat) {out : List Int}, Rf.Rises out → Rf.Rises (runsA l k out)
  | 0, _, h => h
  | k + 1, _, h => rises_runs k (rises_pass l h)
theorem rises_reach (l : List Arc) (s : Int) : Rf.Rises (reachR l s) := by
  unfold reachR
  refine rises_runs _ ?_
  unfold sideO
  exact Rf.keysL_rises _
theorem rises_row (n X : Nat) : Rf.Rises (rowInts n X) := by
  unfold rowInts placesTo
  refine List.Pairwise.map _ (fun a b h => ?_) (List.Pairwise.filter _ List.pairwise_lt_range)
  exact Int.ofNat_lt.2 h
theorem mem_rowInts {n X : Nat} {y : Int} : y ∈ rowInts n X ↔ ∃ j : Nat, y = (j : Int) ∧ j < n ∧ X.testBit j = true := by
  unfold rowInts placesTo
  rw [List.mem_map]
  constructor
  · rintro ⟨j, hj, e⟩
    obtain ⟨h1, h2⟩ := List.mem_filter.1 hj
    exact ⟨j, e.symm, List.mem_range.1 h1, h2⟩
  · rintro ⟨j, e, h1, h2⟩
    exact ⟨j, List.mem_filter.2 ⟨List.mem_range.2 h1, h2⟩, e.symm⟩
variable {n : Nat} {f : Int × Int → Int} {V V' : Nat → Nat → Nat} {q q' : List Pai}
theorem ar_iff (hf : ∀ u v, f (u, v) = (cntP q u v : Int)) (hr : Rng n q) (a b : Nat) : Ar n f a b ↔ ((a : Int), (b : Int)) ∈ prs q := by
  unfold Ar
  rw [hf, mem_prs, ← cntP_pos]
  constructor
  · rintro ⟨_, _, h⟩
    omega
  · intro h
    obtain ⟨h1, h2⟩ := hr _ (cntP_pos.1 h)
    have h1 : 0 ≤ (a : Int) ∧ (a : Int) < (n : Int) := h1
    have h2 : 0 ≤ (b : Int) ∧ (b : Int) < (n : Int) := h2
    omega
theorem prs_pos (hr : Rng n q) : ∀ p ∈ prs q, 0 ≤ p.2 := by
  intro p hp
  unfold prs at hp
  obtain ⟨x, hx, rfl⟩ := List.mem_map.1 hp
  exact (hr x hx).2.1
/-- Whom the document's row has. -/
theorem mem_rowD (hr : Rng n q) {a : Nat} {y : Int} : y ∈ rowD q (a : Int) ↔ ∃ b : Nat, y = (b : Int) ∧ b < n ∧ Rs (fun x y => ((x : Int), (y : Int)) ∈ prs q) a b := by
  unfold rowD
  constructor
  · intro h
    have h2 := (mem_reachR _ _ _).1 h
    obtain ⟨b, rfl, _⟩ := rst_nat (fun x hx => by obtain ⟨p, hp, rfl⟩ := mem_arcsP.1 hx; exact prs_pos hr p hp) h2
    have h3 := (mem_row (prs_pos hr)).1 h
    refine ⟨b, rfl, ?_, h3⟩
    obtain ⟨c, hc⟩ : ∃ c : Nat, ((c : Int), (b : Int)) ∈ prs q := by
      cases h3 with
      | arc e => exact ⟨_, e⟩
      | tail _ e => exact ⟨_, e⟩
    have h4 := (hr _ (mem_prs.1 hc)).2
    have h4 : 0 ≤ (b : Int) ∧ (b : Int) < (n : Int) := h4
    omega
  · rintro ⟨b, rfl, _, h⟩
    exact (mem_row (prs_pos hr)).2 h
theorem row_eq (hg : Good n f V) (hf : ∀ u v, f (u, v) = (cntP q u v : Int)) (hr : Rng n q) {x : Nat} (hx : x < n) : rowInts n (V 2 x) = rowD q (x : Int) := by
  refine Rf.rises_ext (rises_row _ _) (rises_reach _ _) fun y => ?_
  rw [mem_rowInts, mem_rowD hr]
  constructor
  · rintro ⟨j, rfl, hj, h⟩
    exact ⟨j, rfl, hj, (rs_iff (ar_iff hf hr) x j).1 ((hg.rows x hx j hj).1 h)⟩
  · rintro ⟨j, rfl, hj, h⟩
    exact ⟨j, rfl, hj, (hg.rows x hx j hj).2 ((rs_iff (ar_iff hf hr) x j).2 h)⟩
theorem bit_row {x y : Nat} (hg : Good n f V) (hf : ∀ u v, f (u, v) = (cntP q u v : Int)) (hr : Rng n q) (hx : x < n) (hy : y < n) : (V 2 x).testBit y = decide ((y : Int) ∈ rowD q (x : Int)) := by
  rw [← row_eq hg hf hr hx, Bool.eq_iff_iff, decide_eq_true_eq, mem_rowInts]
  constructor
  · exact fun h => ⟨y, rfl, hy, h⟩
  · rintro ⟨j, e, _, h⟩
    have : y = j := by omega
    rw [this]
    exact h
/-- The nodes whose rows are not the same. -/
def othD (n : Nat) (q q' : List Pai) : List Int := ((List.range n).filter fun (x : Nat) => !decide (rowD q (x : Int) = rowD q' (x : Int))).map fun (x : Nat) => (x : Int)
theorem told_eq (hg : Good n f V) (hf : ∀ u v, f (u, v) = (cntP q u v : Int)) (hr : Rng n q) {f' : Int × Int → Int} (hg' : Good n f' V') (hf' : ∀ u v, f' (u, v) = (cntP q' u v : Int)) (hr' : Rng n q') {LV : Nat} (ht : Told n V V' LV) : rowInts n LV = othD n q q' := by
  unfold rowInts placesTo othD
  congr 1
  refine List.filter_congr fun x hx => ?_
  have hx := List.mem_range.1 hx
  rw [Bool.eq_iff_iff, ht x hx, Bool.not_eq_true', decide_eq_false_iff_not, ← row_eq hg hf hr hx, ← row_eq hg' hf' hr' hx]
  refine not_congr ?_
  constructor
  · intro h
    refine Rf.rises_ext (rises_row _ _) (rises_row _ _) fun y => ?_
    rw [mem_rowInts, mem_rowInts]
    exact ⟨fun ⟨j, e, hj, hb⟩ => ⟨j, e, hj, by rw [h j hj]; exact hb⟩, fun ⟨j, e, hj, hb⟩ => ⟨j, e, hj, by rw [← h j hj]; exact hb⟩⟩
  · intro h y hy
    have := Bool.eq_iff_iff.2 (show (V' 2 x).testBit y = true ↔ (V 2 x).testBit y = true from by
      have h1 : ∀ X : Nat, X.testBit y = true ↔ (y : Int) ∈ rowInts n X := fun X => by
        rw [mem_rowInts]
        exact ⟨fun hb => ⟨y, rfl, hy, hb⟩, fun ⟨j, e, _, hb⟩ => by
          have : y = j := by omega
          rw [this]; exact hb⟩
      rw [h1, h1, h])
    exact this
theorem cnt_more (hf : ∀ u v, f (u, v) = (cntP q u v : Int)) (a b u v : Int) : setC f (a, b) (f (a, b) + 1) (u, v) = (cntP (q ++ [⟨a, b⟩]) u v : Int) := by
  rw [cntP_snoc]
  unfold setC
  by_cases h : (u, v) = (a, b)
  · rw [if_pos h]
    injection h with h1 h2
    subst h1 h2
    rw [if_pos (beq_iff.2 rfl), hf]
    omega
  · rw [if_neg h, if_neg (fun e => h (by
      have := beq_iff.1 e
      injection this with e1 e2
      rw [e1, e2])), hf]
    omega
theorem cnt_drop : ∀ (q : List Pai) (a b u v : Int), (⟨a, b⟩ : Pai) ∈ q → (cntP (dropP q a b) u v : Int) = if (u, v) = (a, b) then (cntP q a b : Int) - 1 else (cntP q u v : Int)
  | [], _, _, _, _, h => by cases h
  | p :: q, a, b, u, v, h => by
    have hcons : ∀ (x y : Int) (l : List Pai), cntP (p :: l) x y = (if Pai.beq p ⟨x, y⟩ then 1 else 0) + cntP l x y := fun x y l => by
      unfold cntP
      rw [List.filter_cons]
      split
      · rw [List.length_cons]; omega
      · omega
    unfold dropP
    by_cases hp : Pai.beq p ⟨a, b⟩ = true
    · rw [if_pos hp]
      by_cases e : (u, v) = (a, b)
      · injection e with e1 e2
        subst e1 e2
        rw [if_pos rfl, hcons, if_pos hp]
        omega
      · rw [if_neg e, hcons, if_neg (fun e2 => e (by
          have h1 := beq_iff.1 hp
          have h2 := beq_iff.1 e2
          rw [h1] at h2
          injection h2 with h3 h4
          rw [h3, h4]))]
        omega
    · rw [if_neg hp]
      have hm : (⟨a, b⟩ : Pai) ∈ q := by
        rcases List.mem_cons.1 h with e | e
        · exact absurd (beq_iff.2 e.symm) hp
        · exact e
      have ih := cnt_drop q a b u v hm
      rw [hcons]
      by_cases e : (u, v) = (a, b)
      · injection e with e1 e2
        subst e1 e2
        rw [if_pos rfl] at ih ⊢
        rw [if_neg hp, hcons, if_neg hp]
        omega
      · rw [if_neg e] at ih ⊢
        rw [hcons]
        omega
theorem mem_drop {p : Pai} {a b : Int} : ∀ {q : List Pai}, p ∈ dropP q a b → p ∈ q
  | [], h => h
  | x :: q, h => by
    unfold dropP at h
    split at h
    · exact List.mem_cons_of_mem _ h
    · rcases List.mem_cons.1 h with e | e
      · exact e ▸ List.mem_cons_self
      · exact List.mem_cons_of_mem _ (mem_drop e)
theorem Rng.drop (h : Rng n q) (a b : Int) : Rng n (dropP q a b) := fun p hp => h p (mem_drop hp)
theorem Rng.add (h : Rng n q) {a b : Int} (ha : 0 ≤ a ∧ a < (n : Int)) (hb : 0 ≤ b ∧ b < (n : Int)) : Rng n (q ++ [⟨a, b⟩]) := fun p hp => by
  rcases List.mem_append.1 hp with e | e
  · exact h p e
  · rw [List.mem_singleton] at e
    subst e
    exact ⟨ha, hb⟩
end Go.Proofs.YtakgepdlninnhaaDoor.Cs
namespace Go.Proofs.YtakgepdlninnhaaDoor.Cs
open Go.ChangeShapes Go.WideShapes Go.ChangeAt Go.RowKit Base F Bits Df Cl Sc Gr
/-- A closure with the arcs q, whose last change was of the rows of ls; all that changes of it lies from B on, below C, but for the last changes' row, which is above D. -/
structure QS (B C D b n : Nat) (q : List Pai) (ls : List Int) (M : Nat) (W : World) : Prop where
  ex : ∃ k V la m f, k.b = b ∧ CS B k n W f V la m ∧ Good n f V ∧ (∀ u v, f (u, v) = (cntP q u v : Int)) ∧ m ≤ M ∧ laL n la = ls ∧ (∀ g, CFr k n g → g < C) ∧ ∀ y, la = some y → D ≤ y.2.1
  rng : Rng n q
/-- A call's changes: blocks of those that lie from B on, below C, and are a closure, its counts, or words. -/
def KF (B C : Nat) (W W' : World) : Prop := Fr (fun g => (B ≤ g ∧ g < C) ∧ ∀ cs T, W.heap[g]? = some (Obj.cells cs T (0, 0)) → T = 86 ∨ T = 56) W W'
theorem KF.refl (B C : Nat) (W : World) : KF B C W W := Fr.refl _ _
theorem KF.of_below {B C : Nat} {W W' : World} (h : Below W.heap.size W W') : KF B C W W' := Fr.of_below h
theorem KF.trans {B C : Nat} {W W1 W2 : World} (h : KF B C W W1) (k : KF B C W1 W2) : KF B C W W2 := by
  refine ⟨k.1.trans h.1, k.2.1.trans h.2.1, k.2.2.1.trans h.2.2.1, Nat.le_trans h.size k.size, fun g hg hn => ?_⟩
  have e1 : W1.heap[g]? = W.heap[g]? := h.block hg hn
  refine (k.block (Nat.lt_of_lt_of_le hg h.size) (fun e => hn ⟨e.1, fun cs T hc => e.2 cs T (e1.trans hc)⟩)).trans e1
theorem KF.old {B C : Nat} {W W' : World} (h : KF B C W W') (hB : B ≤ W.heap.size) : Below B W W' := h.below (fun _ e => e.1.1) hB
theorem KF.keep {B C g : Nat} {W W' : World} {cs : Array Value} {T : TypeId} (h : KF B C W W') (hg : W.heap[g]? = some (Obj.cells cs T (0, 0))) (h1 : T ≠ 86) (h2 : T ≠ 56) : W'.heap[g]? = some (Obj.cells cs T (0, 0)) :=
  (h.block (heap_lt hg) (fun e => (e.2 cs T hg).elim h1 h2)).trans hg
variable {B C D b n M : Nat} {q : List Pai} {ls : List Int} {W W' : World}
theorem QS.below (h : QS B C D b n q ls M W) (hb : Below W.heap.size W W') : QS B C D b n q ls M W' := by
  obtain ⟨⟨k, V, la, m, f, h0, h1, h2⟩, h3⟩ := h
  exact ⟨⟨k, V, la, m, f, h0, h1.below hb, h2⟩, h3⟩
/-- What lies apart is changed. -/
theorem QS.apart (h : QS B C D b n q ls M W) {B' C' : Nat} (hk : KF B' C' W W') (hd : C' ≤ B ∨ C ≤ B') (hD : C' ≤ D) : QS B C D b n q ls M W' := by
  obtain ⟨⟨k, V, la, m, f, h0, h1, h2, h3, h4, h5, h6, h7⟩, h8⟩ := h
  have hge : ∀ g, CFr k n g → B ≤ g := fun g e => by
    obtain ⟨g1, g2, g3⟩ := h1.ge
    rcases e with rfl | rfl | ⟨a, i, ha, hi, rfl⟩
    · exact g1
    · exact g2
    · exact g3 a ha i hi
  have blk : ∀ {g : Nat}, g < W.heap.size → CFr k n g → W'.heap[g]? = W.heap[g]? := fun {g} hg e => hk.block hg (fun hF => by
    have := hge g e
    have := h6 g e
    omega)
  have bty : ∀ {g : Nat} {cs : Array Value} {T : TypeId}, W.heap[g]? = some (Obj.cells cs T (0, 0)) → T ≠ 86 → T ≠ 56 → W'.heap[g]? = W.heap[g]? := fun {g cs T} hg t1 t2 => (hk.keep hg t1 t2).trans hg.symm
  obtain ⟨es, clock, hm⟩ := h1.mp
  have hmb := blk (heap_lt hm) (.inr (.inl rfl))
  refine ⟨⟨k, V, la, m, f, h0, ⟨(blk (heap_lt h1.head) (.inl rfl)).trans h1.head, h1.map.heap hmb, fun a ha i hi => ?_, fun a ha i hi => ?_, h1.inj, fun x hx => ?_, h1.ge, h1.hn, Nat.le_trans h1.size hk.size, ⟨es, clock, hmb.trans hm⟩⟩, h2, h3, h4, h5, h6, h7⟩, h8⟩
  · obtain ⟨g, cur, s1, s2, s3⟩ := h1.sl a ha i hi
    exact ⟨g, cur, s1, (bty s2 (by decide) (by decide)).trans s2, s3⟩
  · have := h1.row a ha i hi
    exact this.keep (bty this.1 (by decide) (by decide)) (blk (heap_lt this.2.1) (.inr (.inr ⟨a, i, ha, hi, rfl⟩)))
  · obtain ⟨r1, r2, r3⟩ := h1.lst x hx
    refine ⟨r1.keep (bty r1.1 (by decide) (by decide)) (hk.block (heap_lt r1.2.1) (fun hF => ?_)), r2, r3⟩
    have := h7 x hx
    omega
/-- A closure's own blocks are of these kinds. -/
theorem kf_of {k : CB} {f : Int × Int → Int} {V : Nat → Nat → Nat} {la : La} {m : Nat} (h : CS B k n W f V la m) (hC : ∀ g, CFr k n g → g < C) (hf : Fr (CFr k n) W W') : KF B C W W' :=
  hf.mono fun g e => ⟨⟨by
    obtain ⟨g1, g2, g3⟩ := h.ge
    rcases e with rfl | rfl | ⟨a, i, ha, hi, rfl⟩
    · exact g1
    · exact g2
    · exact g3 a ha i hi, hC g e⟩, fun cs T hg => by
    rcases e with rfl | rfl | ⟨a, i, ha, hi, rfl⟩
    · have := h.head
      unfold cloB at this
      rw [hg] at this
      simp only [Option.some.injEq, Obj.cells.injEq] at this
      exact .inr this.2.1
    · obtain ⟨es, clock, hm⟩ := h.mp
      rw [hg] at hm
      cases hm
    · have := (h.row a ha i hi).2.1
      rw [hg] at this
      simp only [Option.some.injEq, Obj.cells.injEq] at this
      exact .inl this.2.1⟩
theorem QS.hn (h : QS B C D b n q ls M W) : n ≤ 4096 := by
  obtain ⟨⟨k, V, la, m, f, h0, h1, _⟩, _⟩ := h
  exact h1.hn
theorem QS.size (h : QS B C D b n q ls M W) : B ≤ W.heap.size := by
  obtain ⟨⟨k, V, la, m, f, h0, h1, _⟩, _⟩ := h
  exact h1.size
theorem QS.less (h : QS B C D b n q ls M W) {M' D' : Nat} (hM : M ≤ M') (hD : D' ≤ D) : QS B C D' b n q ls M' W := by
  obtain ⟨⟨k, V, la, m, f, h0, h1, h2, h3, h4, h5, h6, h7⟩, h8⟩ := h
  exact ⟨⟨k, V, la, m, f, h0, h1, h2, h3, Nat.le_trans h4 hM, h5, h6, fun y hy => Nat.le_trans hD (h7 y hy)⟩, h8⟩
/-- A new one. -/
theorem new_q (nn : Int) (w : World) : Calls Tryd.prog 5 #[.int .i64 nn] w fun e w' => ∃ b, e = .returned (.pointer (some ⟨b, 0, none⟩)) ∧ (∀ D, QS w.heap.size w'.heap.size D b (roomC nn) [] [] 0 w') ∧ Below w.heap.size w w' := by
  refine (new_any nn w).mono ?_
  rintro e w' ⟨k, he, hcs, hb⟩
  refine ⟨k.b, he, fun D => ⟨⟨k, fun _ _ => 0, none, 0, fun _ => 0, rfl, hcs, ⟨fun x hx y hy => ?_, fun x hx y hy => ?_, fun x hx y hy => ?_⟩, fun u v => rfl, Nat.le_refl _, rfl, fun g e => ?_, fun y hy => by cases hy⟩, fun p hp => by cases hp⟩, hb⟩
  · simp [Ar]
  · simp [Ar]
  · simp only [Nat.zero_testBit, Bool.false_eq_true, false_iff]
    intro h
    obtain ⟨c, h1, _⟩ := h.first
    exact absurd h1.2.2 (by simp)
  · rcases e with rfl | rfl | ⟨a, i, ha, hi, rfl⟩
    · exact heap_lt hcs.head
    · obtain ⟨es, clock, hm⟩ := hcs.mp
      exact heap_lt hm
    · exact heap_lt (hcs.row a ha i hi).2.1
theorem f_bound {f : Int × Int → Int} (hf : ∀ u v, f (u, v) = (cntP q u v : Int)) (hq : q.length ≤ 1000) (x : Int × Int) : 0 ≤ f x ∧ f x ≤ 1000 := by
  obtain ⟨u, v⟩ := x
  have := cntP_le q u v
  rw [hf]
  omega
/-- What a call that changes leaves. -/
def ChQ (B C D b n : Nat) (q : List Pai) (ls : List Int) (M : Nat) (W : World) (e : Ending) (W' : World) : Prop := e = .returned (.int .i64 0) ∧ QS B C D b n q ls M W' ∧ KF B C W W'
theorem add_q (h : QS B C D b n q ls M W) (hD : D ≤ W.heap.size) (hT : TabW W) (hTB : 0 < B) (hM : M ≤ 1000) (hq : q.length ≤ 1000) {u v : Int} (hu : 0 ≤ u ∧ u < (n : Int)) (hv : 0 ≤ v ∧ v < (n : Int)) :
    Calls Tryd.prog 10 #[.pointer (some ⟨b, 0, none⟩), .int .i64 u, .int .i64 v] W (ChQ B C D b n (q ++ [⟨u, v⟩]) (othD n q (q ++ [⟨u, v⟩])) (M + 1) W) := by
  obtain ⟨⟨k, V, la, m, f, rfl, h1, h2, h3, h4, h5, h6, h7⟩, h8⟩ := h
  obtain ⟨x, rfl⟩ := Int.eq_ofNat_of_zero_le hu.1
  obtain ⟨y, rfl⟩ := Int.eq_ofNat_of_zero_le hv.1
  have hfb := f_bound h3 hq
  refine (add_ok h1 (by omega) hT hTB (fun z => by have := hfb z; omega) (u := x) (v := y) (by omega) (by omega)).mono ?_
  rintro e W' ⟨m', V', lb, lg, LV', he, hm', hcs, hav, hfr, hlg⟩
  have hg := good_add h2 (u := x) (v := y) (by omega) (by omega) (hfb _).1 hav
  have hf' : ∀ a b, setC f ((x : Int), (y : Int)) (f ((x : Int), (y : Int)) + 1) (a, b) = (cntP (q ++ [⟨(x : Int), (y : Int)⟩]) a b : Int) := fun a b => cnt_more h3 _ _ _ _
  have hr' := h8.add hu hv
  exact ⟨he, ⟨⟨k, V', some (lb, lg, LV'), m', _, rfl, hcs, hg.1, hf', by omega, told_eq h2 h3 h8 hg.1 hf' hr' hg.2, h6, fun z hz => by cases hz; exact Nat.le_trans hD hlg⟩, hr'⟩, kf_of h1 h6 hfr⟩
theorem drop_q (h : QS B C D b n q ls M W) (hD : D ≤ W.heap.size) (hT : TabW W) (hTB : 0 < B) (hM : M ≤ 1000) (hq : q.length ≤ 1000) {u v : Int} (hu : 0 ≤ u ∧ u < (n : Int)) (hv : 0 ≤ v ∧ v < (n : Int)) (hm : (⟨u, v⟩ : Pai) ∈ q) :
    Calls Tryd.prog 11 #[.pointer (some ⟨b, 0, none⟩), .int .i64 u, .int .i64 v] W (ChQ B C D b n (dropP q u v) (othD n q (dropP q u v)) (M + 1) W) := by
  obtain ⟨⟨k, V, la, m, f, rfl, h1, h2, h3, h4, h5, h6, h7⟩, h8⟩ := h
  obtain ⟨x, rfl⟩ := Int.eq_ofNat_of_zero_le hu.1
  obtain ⟨y, rfl⟩ := Int.eq_ofNat_of_zero_le hv.1
  have hfb := f_bound h3 hq
  have hpos : 1 ≤ f ((x : Int), (y : Int)) := by
    have := cntP_pos.2 hm
    rw [h3]
    omega
  refine (drop_ok (fun m' lb lg f' => renew_any hTB) h2 hpos h1 (by omega) hT hTB (fun z => by have := hfb z; omega) (u := x) (v := y) (by omega) (by omega)).mono ?_
  rintro e W' ⟨m', V', lb, lg, LV', he, hm', hcs, hgd, htl, hfr, hlg⟩
  have hf' : ∀ a b, setC f ((x : Int), (y : Int)) (f ((x : Int), (y : Int)) - 1) (a, b) = (cntP (dropP q (x : Int) (y : Int)) a b : Int) := fun a b => by
    rw [cnt_drop q _ _ a b hm]
    unfold setC
    by_cases e : (a, b) = ((x : Int), (y : Int))
    · rw [if_pos e, if_pos e, h3]
    · rw [if_neg e, if_neg e, h3]
  have hr' := h8.drop (x : Int) (y : Int)
  exact ⟨he, ⟨⟨k, V', some (lb, lg, LV'), m', _, rfl, hcs, hgd, hf', by omega, told_eq h2 h3 h8 hgd hf' hr' htl, h6, fun z hz => by cases hz; exact Nat.le_trans hD hlg⟩, hr'⟩, kf_of h1 h6 hfr⟩
theorem dropNone_q (h : QS B C D b n q ls M W) {u v : Int} (hu : 0 ≤ u ∧ u < (n : Int)) (hv : 0 ≤ v ∧ v < (n : Int)) (hm : ¬ (⟨u, v⟩ : Pai) ∈ q) : Calls Tryd.prog 11 #[.pointer (some ⟨b, 0, none⟩), .int .i64 u, .int .i64 v] W (HeldP (.int .i64 3) W) := by
  obtain ⟨⟨k, V, la, m, f, rfl, h1, h2, h3, h4, h5, h6, h7⟩, h8⟩ := h
  obtain ⟨x, rfl⟩ := Int.eq_ofNat_of_zero_le hu.1
  obtain ⟨y, rfl⟩ := Int.eq_ofNat_of_zero_le hv.1
  refine drop_none h1 ?_ (by omega) (by omega)
  rw [h3]
  have : ¬ 0 < cntP q (x : Int) (y : Int) := fun e => hm (cntP_pos.1 e)
  omega
theorem QS.v (h : QS B C D b n q ls M W) : ClV W (.pointer (some ⟨b, 0, none⟩)) n := by
  obtain ⟨⟨k, V, la, m, f, rfl, h1, _⟩, _⟩ := h
  exact h1.v
theorem row_q (h : QS B C D b n q ls M W) (hT : TabW W) (u : Int) : Calls Tryd.prog 18 #[.pointer (some ⟨b, 0, none⟩), .int .i64 u] W (NumW W (if isN n u then rowD q u else [])) := by
  obtain ⟨⟨k, V, la, m, f, rfl, h1, h2, h3, h4, h5, h6, h7⟩, h8⟩ := h
  have := rowOf_any h1 hT u
  by_cases hu : 0 ≤ u ∧ u < (n : Int)
  · obtain ⟨x, rfl⟩ := Int.eq_ofNat_of_zero_le hu.1
    have e : isN n (x : Int) = true := decide_eq_true hu
    rw [e, if_pos rfl, Int.toNat_natCast, row_eq h2 h3 h8 (by omega)] at this
    rw [e, if_pos rfl]
    exact this
  · have e : isN n u = false := decide_eq_false hu
    rw [e] at this ⊢
    exact this
theorem reaches_q (h : QS B C D b n q ls M W) (u v : Int) : Calls Tryd.prog 19 #[.pointer (some ⟨b, 0, none⟩), .int .i64 u, .int .i64 v] W (HeldP (.bool (isN n u && decide (v ∈ rowD q u))) W) := by
  obtain ⟨⟨k, V, la, m, f, rfl, h1, h2, h3, h4, h5, h6, h7⟩, h8⟩ := h
  have := reaches_any h1 u v
  by_cases hu : 0 ≤ u ∧ u < (n : Int)
  · obtain ⟨x, rfl⟩ := Int.eq_ofNat_of_zero_le hu.1
    have e : isN n (x : Int) = true := decide_eq_true hu
    rw [e, Bool.true_and] at this ⊢
    have e2 : (isN n v && (V 2 (x : Int).toNat).testBit v.toNat) = decide (v ∈ rowD q (x : Int)) := by
      by_cases hv : 0 ≤ v ∧ v < (n : Int)
      · obtain ⟨y, rfl⟩ := Int.eq_ofNat_of_zero_le hv.1
        have e3 : isN n (y : Int) = true := decide_eq_true hv
        rw [e3, Bool.true_and, Int.toNat_natCast, Int.toNat_natCast, bit_row h2 h3 h8 (by omega) (by omega)]
      · have e3 : isN n v = false := decide_eq_false hv
        rw [e3, Bool.false_and]
        symm
        refine decide_eq_false fun hm => ?_
        obtain ⟨c, rfl, hc, _⟩ := (mem_rowD h8).1 hm
        exact hv ⟨by omega, by omega⟩
    rw [e2] at this
    exact this
  · have e : isN n u = false := decide_eq_false hu
    rw [e, Bool.false_and] at this ⊢
    exact this
theorem last_q (h : QS B C D b n q ls M W) (hT : TabW W) : Calls Tryd.prog 17 #[.pointer (some ⟨b, 0, none⟩)] W (NumW W ls) := by
  obtain ⟨⟨k, V, la, m, f, rfl, h1, h2, h3, h4, h5, h6, h7⟩, h8⟩ := h
  rw [← h5]
  exact last_any h1 hT
theorem arcs_q (h : QS B C D b n q ls M W) (hq : q.length ≤ 1000) (u v : Int) : Calls Tryd.prog 14 #[.pointer (some ⟨b, 0, none⟩), .int .i64 u, .int .i64 v] W (HeldP (.int .i64 (cntP q u v : Nat)) W) := by
  obtain ⟨⟨k, V, la, m, f, rfl, h1, h2, h3, h4, h5, h6, h7⟩, h8⟩ := h
  have := arcs_any h1 (fun x => by have := f_bound h3 hq x; omega) u v
  have e : (if (isN n u && isN n v) = true then f (u, v) else 0) = (cntP q u v : Int) := by
    rw [h3]
    by_cases hc : 0 < cntP q u v
    · obtain ⟨r1, r2⟩ := h8 _ (cntP_pos.1 hc)
      have r1 : 0 ≤ u ∧ u < (n : Int) := r1
      have r2 : 0 ≤ v ∧ v < (n : Int) := r2
      rw [if_pos (by unfold isN; rw [decide_eq_true r1, decide_eq_true r2]; rfl)]
    · have : cntP q u v = 0 := by omega
      rw [this]
      split <;> rfl
  rw [e] at this
  exact this
theorem IK.kf {v : Value} {zs : List Int} (h : IK W v zs) (hk : KF B C W W') : IK W' v zs := by
  rcases h with h | h
  · exact .inl h
  · refine .inr ⟨h.1, ?_⟩
    rcases h.2 with hn | ⟨g, cap, cur, hv, hB, hg, rest⟩
    · exact .inl hn
    · exact .inr ⟨g, cap, cur, hv, hB, hk.keep hg (by decide) (by decide), rest⟩
/-- The nil closure's answers. -/
theorem row_nil (u : Int) (w : World) : Calls Tryd.prog 18 #[.pointer none, .int .i64 u] w (HeldP (.slice none 0 0) w) := by
  have HN := Lib.hid (isNode_any (w := w) (n := 0) (.inl ⟨rfl, rfl⟩) u)
  rw [decide_eq_false (by omega)] at HN
  go_enter Tryd.func18, Tryd.ntmps18
  go_wp2_with fail
  refine HN.out.mono ?_
  rintro e w1 ⟨rfl, hb⟩
  have HB := Lib.hid hb
  clear hb HN
  go_wp2
  go_ret
  exact ⟨rfl, HB.out⟩
theorem reaches_nil (u v : Int) (w : World) : Calls Tryd.prog 19 #[.pointer none, .int .i64 u, .int .i64 v] w (HeldP (.bool false) w) := by
  have HN := Lib.hid (isNode_any (w := w) (n := 0) (.inl ⟨rfl, rfl⟩) u)
  rw [decide_eq_false (by omega)] at HN
  go_enter Tryd.func19, Tryd.ntmps19
  go_wp2_with fail
  refine HN.out.mono ?_
  rintro e w1 ⟨rfl, hb⟩
  have HB := Lib.hid hb
  clear hb HN
  go_wp2
  go_ret
  exact ⟨rfl, HB.out⟩
end Go.Proofs.YtakgepdlninnhaaDoor.Cs
namespace Go.Proofs.YtakgepdlninnhaaDoor.Cs
open Go.ChangeShapes Go.WideShapes Go.ChangeAt Go.RowKit Base F Bits Df Cl Sc Gr
/-- A closure of the call's own, lists that it told, and what was there in w0 as it was. -/
structure CJ (w0 : World) (b n C : Nat) (vs : List (Value × List Int)) (q : List Pai) (ls : List Int) (M : Nat) (w : World) : Prop where
  qs : QS w0.heap.size C w0.heap.size b n q ls M w
  bel : Below w0.heap.size w0 w
  ls_ : ∀ x ∈ vs, IK w x.1 x.2
section
variable {w0 w w' : World} {b n C M M' : Nat} {vs : List (Value × List Int)} {q q' : List Pai} {ls ls' zs : List Int} {v : Value} {e : Ending}
theorem CJ.below (h : CJ w0 b n C vs q ls M w) (hb : Below w.heap.size w w') : CJ w0 b n C vs q ls M w' := ⟨h.qs.below hb, h.bel.trans (hb.mono h.bel.size), fun x hx => (h.ls_ x hx).below hb⟩
theorem CJ.tab (h : CJ w0 b n C vs q ls M w) (hT : TabW w0) : TabW w := hT.below h.bel
theorem CJ.ch (h : CJ w0 b n C vs q ls M w) (hp : ChQ w0.heap.size C w0.heap.size b n q' ls' M' w e w') : e = .returned (.int .i64 0) ∧ Hid (CJ w0 b n C vs q' ls' M' w') :=
  ⟨hp.1, Lib.hid ⟨hp.2.1, h.bel.trans (hp.2.2.old h.bel.size), fun x hx => (h.ls_ x hx).kf hp.2.2⟩⟩
theorem CJ.held (h : CJ w0 b n C vs q ls M w) (hp : HeldP v w e w') : e = .returned v ∧ Hid (CJ w0 b n C vs q ls M w') := ⟨hp.1, Lib.hid (h.below hp.2)⟩
theorem IK.form {W : World} (h : IK W v zs) {k : Nat} (hk : zs.length = k) : ∃ p c, v = .slice p k c := by
  subst hk
  rcases h with ⟨⟨p, c, hv⟩, rfl⟩ | h
  · exact ⟨p, c, hv⟩
  · rcases h.2 with ⟨hv, h0⟩ | ⟨g, cap, cur, hv, _⟩
    · exact ⟨none, 0, by rw [hv, h0]⟩
    · exact ⟨_, cap, hv⟩
theorem CJ.num (h : CJ w0 b n C vs q ls M w) {k : Nat} (hk : zs.length = k) (hp : NumW w zs e w') : ∃ p c, e = .returned (.slice p k c) ∧ Hid (CJ w0 b n C ((.slice p k c, zs) :: vs) q ls M w') := by
  obtain ⟨v, he, hi, hb⟩ := hp
  obtain ⟨p, c, rfl⟩ := hi.form hk
  refine ⟨p, c, he, Lib.hid ⟨h.qs.below hb, h.bel.trans (hb.mono h.bel.size), fun x hx => ?_⟩⟩
  rcases List.mem_cons.1 hx with rfl | hx
  · exact hi
  · exact (h.ls_ x hx).below hb
theorem CJ.new {nn : Int} (hr : roomC nn = n) (hp : ∃ b, e = .returned (.pointer (some ⟨b, 0, none⟩)) ∧ (∀ D, QS w.heap.size w'.heap.size D b (roomC nn) [] [] 0 w') ∧ Below w.heap.size w w') : ∃ b, e = .returned (.pointer (some ⟨b, 0, none⟩)) ∧ Hid (CJ w b n w'.heap.size [] [] [] 0 w') := by
  obtain ⟨b, he, h1, h2⟩ := hp
  rw [hr] at h1
  exact ⟨b, he, Lib.hid ⟨h1 _, h2, fun x hx => by cases hx⟩⟩
theorem add_is (h : CJ w0 b n C vs q ls M w) (hT : TabW w0) {u v : Int} {q' : List Pai} {ls' : List Int} {M' : Nat} (hM : M + 1 = M') (hMM : M ≤ 1000) (hq : q.length ≤ 1000) (hu : 0 ≤ u ∧ u < (n : Int)) (hv : 0 ≤ v ∧ v < (n : Int)) (hq' : q ++ [⟨u, v⟩] = q') (hl : othD n q q' = ls') :
    Calls Tryd.prog 10 #[.pointer (some ⟨b, 0, none⟩), .int .i64 u, .int .i64 v] w (ChQ w0.heap.size C w0.heap.size b n q' ls' M' w) := by
  subst hq' hl hM
  exact add_q h.qs h.bel.size (h.tab hT) hT.2 hMM hq hu hv
theorem drop_is (h : CJ w0 b n C vs q ls M w) (hT : TabW w0) {u v : Int} {q' : List Pai} {ls' : List Int} {M' : Nat} (hM : M + 1 = M') (hMM : M ≤ 1000) (hq : q.length ≤ 1000) (hu : 0 ≤ u ∧ u < (n : Int)) (hv : 0 ≤ v ∧ v < (n : Int)) (hm : 0 < cntP q u v) (hq' : dropP q u v = q') (hl : othD n q q' = ls') :
    Calls Tryd.prog 11 #[.pointer (some ⟨b, 0, none⟩), .int .i64 u, .int .i64 v] w (ChQ w0.heap.size C w0.heap.size b n q' ls' M' w) := by
  subst hq' hl hM
  exact drop_q h.qs h.bel.size (h.tab hT) hT.2 hMM hq hu hv (cntP_pos.1 hm)
theorem dropn_is (h : CJ w0 b n C vs q ls M w) {u v : Int} (hu : 0 ≤ u ∧ u < (n : Int)) (hv : 0 ≤ v ∧ v < (n : Int)) (hm : cntP q u v = 0) :
    Calls Tryd.prog 11 #[.pointer (some ⟨b, 0, none⟩), .int .i64 u, .int .i64 v] w (HeldP (.int .i64 3) w) :=
  dropNone_q h.qs hu hv (fun e => by have := cntP_pos.2 e; omega)
theorem row_is (h : CJ w0 b n C vs q ls M w) (hT : TabW w0) {u : Int} {zs : List Int} (hu : 0 ≤ u ∧ u < (n : Int)) (hz : rowD q u = zs) : Calls Tryd.prog 18 #[.pointer (some ⟨b, 0, none⟩), .int .i64 u] w (NumW w zs) := by
  have := row_q h.qs (h.tab hT) u
  rw [show isN n u = true from decide_eq_true hu, if_pos rfl, hz] at this
  exact this
theorem last_is (h : CJ w0 b n C vs q ls M w) (hT : TabW w0) : Calls Tryd.prog 17 #[.pointer (some ⟨b, 0, none⟩)] w (NumW w ls) := last_q h.qs (h.tab hT)
theorem reaches_is (h : CJ w0 b n C vs q ls M w) {u v : Int} {r : Bool} (hr : (isN n u && decide (v ∈ rowD q u)) = r) : Calls Tryd.prog 19 #[.pointer (some ⟨b, 0, none⟩), .int .i64 u, .int .i64 v] w (HeldP (.bool r) w) := by
  have := reaches_q h.qs u v
  rwa [hr] at this
theorem arcs_is (h : CJ w0 b n C vs q ls M w) (hq : q.length ≤ 1000) {u v : Int} {r : Int} (hr : ((cntP q u v : Nat) : Int) = r) : Calls Tryd.prog 14 #[.pointer (some ⟨b, 0, none⟩), .int .i64 u, .int .i64 v] w (HeldP (.int .i64 r) w) := by
  have := arcs_q h.qs hq u v
  rwa [hr] at this
/-- A list that was told is held against one that is typed out. -/
theorem same_lit (h : CJ w0 b n C vs q ls M w) {X : World} {v : Value} {zs : List Int} (hm : (v, zs) ∈ vs) {g : Nat} {cs : Array Value} (hX : X = w.alloc (.cells cs 3)) (hg : g = w.heap.size) (hcs : cs = (zs.map (Value.int .i64)).toArray) {k : Nat} (hk : zs.length = k) (hl : k ≤ 1000) :
    Calls Tryd.prog 16 #[v, .slice (some ⟨g, 0, none⟩) k k] X fun e w' => e = .returned (.bool true) ∧ Hid (CJ w0 b n C vs q ls M w') := by
  subst hg hk
  have hb : Below w.heap.size w X := by rw [hX]; exact (Below.refl _ _).alloc (Nat.le_refl _) _
  have h1 := ((show IK w v zs from h.ls_ _ hm).ints (by omega)).below hb
  have h2 : Lst.Ints 0 X (.slice (some ⟨w.heap.size, 0, none⟩) zs.length zs.length) zs := by
    have hx : X.heap[w.heap.size]? = some (.cells cs 3) := by rw [hX]; exact heap_alloc_at _ _ _ rfl
    refine .inr ⟨w.heap.size, 0, zs.length, rfl, Nat.zero_le _, heap_lt hx, by omega, fun k hk => ?_⟩
    simp [World.cell?, hx, hcs, List.getD_eq_getElem?_getD, hk]
  refine (Lst.sameInts_yes h1 h2).mono ?_
  rintro e w' ⟨he, q, rfl⟩
  exact ⟨he, Lib.hid (h.below (hb.trans ((below_drewN (Below.refl _ X) q).mono hb.size)))⟩
end
end Go.Proofs.YtakgepdlninnhaaDoor.Cs
namespace Go.Proofs.YtakgepdlninnhaaDoor.Cs
open Go.ChangeShapes Go.WideShapes Go.ChangeAt Go.RowKit Base F Bits Df Cl Sc Gr
def inR (n : Nat) (p : Pai) : Bool := decide ((0 ≤ p.k ∧ p.k < (n : Int)) ∧ 0 ≤ p.v ∧ p.v < (n : Int))
def addR (n : Nat) (q : List Pai) (p : Pai) : List Pai := if inR n p then q ++ [p] else q
def inL (n : Nat) (l : List Pai) : List Pai := l.filter (inR n)
/-- q has those of lt that are right, and those of ad. -/
def AdI (n : Nat) (lt q ad : List Pai) (N A : Nat) : Prop := (∀ u v, cntP q u v = cntP (inL n lt) u v + cntP ad u v) ∧ (∀ p ∈ ad, inR n p = true) ∧ q.length ≤ N ∧ ad.length ≤ A
section
variable {n N A : Nat} {lt q ad l : List Pai} {p : Pai}
theorem cntP_app (a b : List Pai) (u v : Int) : cntP (a ++ b) u v = cntP a u v + cntP b u v := by
  unfold cntP
  rw [List.filter_append, List.length_append]
theorem cntP_cons (p : Pai) (b : List Pai) (u v : Int) : cntP (p :: b) u v = cntP [p] u v + cntP b u v := cntP_app [p] b u v
theorem AdI.start : AdI n [] [] [] 0 0 := ⟨fun _ _ => rfl, (fun p h => by cases h), Nat.le_refl _, Nat.le_refl _⟩
theorem AdI.put (h : AdI n lt q ad N A) (p : Pai) : AdI n (lt ++ [p]) (addR n q p) ad (N + 1) A := by
  obtain ⟨h1, h2, h3, h4⟩ := h
  unfold addR
  cases hp : inR n p with
  | true =>
    rw [if_pos rfl]
    refine ⟨fun u v => ?_, h2, by rw [List.length_append]; simp; omega, h4⟩
    have : inL n (lt ++ [p]) = inL n lt ++ [p] := by unfold inL; rw [List.filter_append]; simp [hp]
    rw [this, cntP_app, cntP_app, h1]
    omega
  | false =>
    rw [if_neg (by decide)]
    have : inL n (lt ++ [p]) = inL n lt := by unfold inL; rw [List.filter_append]; simp [hp]
    exact ⟨fun u v => by rw [this]; exact h1 u v, h2, by omega, h4⟩
theorem AdI.both (h : AdI n lt q ad N A) (hp : inR n p = true) : AdI n lt (q ++ [p]) (ad ++ [p]) (N + 1) (A + 1) := by
  obtain ⟨h1, h2, h3, h4⟩ := h
  refine ⟨fun u v => by rw [cntP_app, cntP_app, h1]; omega, fun x hx => ?_, by rw [List.length_append]; simp; omega, by rw [List.length_append]; simp; omega⟩
  rcases List.mem_append.1 hx with e | e
  · exact h2 x e
  · rw [List.mem_singleton] at e
    rw [e]; exact hp
theorem AdI.mono (h : AdI n lt q ad N A) {N' A' : Nat} (h1 : N ≤ N') (h2 : A ≤ A') : AdI n lt q ad N' A' := ⟨h.1, h.2.1, Nat.le_trans h.2.2.1 h1, Nat.le_trans h.2.2.2 h2⟩
theorem dropP_le : ∀ (q : List Pai) (u v : Int), (dropP q u v).length ≤ q.length := dropP_len
theorem AdI.gone (h : AdI n lt q (p :: ad) N A) : p ∈ q ∧ inR n p = true ∧ AdI n lt (dropP q p.k p.v) ad N A := by
  obtain ⟨h1, h2, h3, h4⟩ := h
  have hm : (⟨p.k, p.v⟩ : Pai) ∈ q := cntP_pos.1 (by
    rw [h1, cntP_cons]
    have : 0 < cntP [p] p.k p.v := cntP_pos.2 (by cases p; simp)
    omega)
  refine ⟨by cases p; exact hm, h2 p List.mem_cons_self, fun u v => ?_, fun x hx => h2 x (List.mem_cons_of_mem _ hx), Nat.le_trans (dropP_len _ _ _) h3, by simp at h4; omega⟩
  have e := cnt_drop q p.k p.v u v hm
  have e1 := h1 u v
  rw [cntP_cons] at e1
  have e2 : cntP [p] u v = if (u, v) = (p.k, p.v) then 1 else 0 := by
    unfold cntP
    by_cases c : (u, v) = (p.k, p.v)
    · injection c with c1 c2
      subst c1 c2
      rw [if_pos rfl, List.filter_cons_of_pos (by cases p; exact beq_iff.2 rfl)]
      rfl
    · rw [if_neg c, List.filter_cons_of_neg (fun e3 => c (by
        have := beq_iff.1 e3
        rw [this]))]
      rfl
  by_cases c : (u, v) = (p.k, p.v)
  · rw [if_pos c] at e e2
    injection c with c1 c2
    subst c1 c2
    omega
  · rw [if_neg c] at e e2
    omega
theorem AdI.done (h : AdI n lt q [] N A) (u v : Int) : cntP q u v = cntP (inL n lt) u v := by
  rw [h.1]
  rfl
theorem cnt_rev (l : List Pai) (u v : Int) : cntP (inL n l.reverse) u v = cntP (inL n l) u v := by
  unfold cntP inL
  rw [List.filter_reverse, List.filter_reverse, List.length_reverse]
theorem take_more {i : Nat} (h : ¬ i < l.length) : l.take (i + 1) = l.take i := by
  rw [List.take_of_length_le (by omega), List.take_of_length_le (by omega)]
theorem rev_get {l : List Pai} {j : Nat} (h : j < l.length) : l.reverse.take (j + 1) = l.reverse.take j ++ [l.getD (l.length - 1 - j) Pai.zero] := by
  rw [take_next (by rw [List.length_reverse]; exact h)]
  congr 2
  rw [List.getD_eq_getElem?_getD, List.getD_eq_getElem?_getD, List.getElem?_reverse h]
theorem rowD_congr {q q' : List Pai} (hr : Rng n q) (hr' : Rng n q') (h : ∀ u v, cntP q u v = cntP q' u v) (x : Nat) : rowD q (x : Int) = rowD q' (x : Int) := by
  refine Rf.rises_ext (rises_reach _ _) (rises_reach _ _) fun y => ?_
  have key : ∀ a b : Nat, ((a : Int), (b : Int)) ∈ prs q ↔ ((a : Int), (b : Int)) ∈ prs q' := fun a b => by
    rw [mem_prs, mem_prs, ← cntP_pos, ← cntP_pos, h]
  show y ∈ rowD q (x : Int) ↔ y ∈ rowD q' (x : Int)
  rw [mem_rowD hr, mem_rowD hr']
  exact ⟨fun ⟨b, e, hb, k⟩ => ⟨b, e, hb, (rs_iff key x b).1 k⟩, fun ⟨b, e, hb, k⟩ => ⟨b, e, hb, (rs_iff key x b).2 k⟩⟩
theorem rowD_trans {q : List Pai} (hr : Rng n q) {x y : Nat} {z : Int} (h1 : (y : Int) ∈ rowD q (x : Int)) (h2 : z ∈ rowD q (y : Int)) : z ∈ rowD q (x : Int) := by
  obtain ⟨b, e, hb, k1⟩ := (mem_rowD hr).1 h1
  obtain ⟨c, rfl, hc, k2⟩ := (mem_rowD hr).1 h2
  have : y = b := by omega
  subst this
  exact (mem_rowD hr).2 ⟨c, rfl, hc, k1.trans k2⟩
theorem rowD_in {q : List Pai} (hr : Rng n q) {x : Nat} {z : Int} (h : z ∈ rowD q (x : Int)) : ∃ c : Nat, z = (c : Int) ∧ c < n := by
  obtain ⟨c, e, hc, _⟩ := (mem_rowD hr).1 h
  exact ⟨c, e, hc⟩
theorem rowD_len {q : List Pai} (hr : Rng n q) (x : Nat) : (rowD q (x : Int)).length ≤ n := by
  have h1 : (rowD q (x : Int)).map Int.toNat = ((rowD q (x : Int)).map Int.toNat) := rfl
  have h2 : ((rowD q (x : Int)).map Int.toNat).Nodup := by
    have hp : (rowD q (x : Int)).Pairwise (· < ·) := rises_reach _ _
    refine List.Pairwise.map _ (fun a b h => ?_) (hp.imp_of_mem (S := fun a b => a < b ∧ 0 ≤ a) (fun {a b} ha _ h => ⟨h, by obtain ⟨c, rfl, _⟩ := rowD_in hr ha; omega⟩))
    have := h.1
    have := h.2
    omega
  have h3 := nodup_le h2 (n := n) (fun y hy => by
    obtain ⟨z, hz, rfl⟩ := List.mem_map.1 hy
    obtain ⟨c, rfl, hc⟩ := rowD_in hr hz
    exact hc)
  rwa [List.length_map] at h3
end
variable {B C D b n M : Nat} {q : List Pai} {ls : List Int} {W W' : World}
/-- Add, whatever it is handed. -/
def AnyP (B C D b n : Nat) (q : List Pai) (p : Pai) (M : Nat) (W : World) (e : Ending) (W' : World) : Prop := ∃ ls', e = .returned (.int .i64 (if inR n p then 0 else 1)) ∧ QS B C D b n (addR n q p) ls' (M + 1) W' ∧ KF B C W W'
theorem add_every (h : QS B C D b n q ls M W) (hD : D ≤ W.heap.size) (hT : TabW W) (hTB : 0 < B) (hM : M ≤ 1000) (hq : q.length ≤ 1000) (u v : Int) : Calls Tryd.prog 10 #[.pointer (some ⟨b, 0, none⟩), .int .i64 u, .int .i64 v] W (AnyP B C D b n q ⟨u, v⟩ M W) := by
  by_cases hr : (0 ≤ u ∧ u < (n : Int)) ∧ 0 ≤ v ∧ v < (n : Int)
  · have e1 : inR n ⟨u, v⟩ = true := decide_eq_true hr
    refine (add_q h hD hT hTB hM hq hr.1 hr.2).mono ?_
    rintro e W' ⟨he, h1, h2⟩
    refine ⟨othD n q (q ++ [⟨u, v⟩]), by rw [e1]; exact he, ?_, h2⟩
    unfold addR
    rw [e1, if_pos rfl]
    exact h1
  · have e1 : inR n ⟨u, v⟩ = false := decide_eq_false hr
    refine (add_bad h.v u v hr).mono ?_
    rintro e W' ⟨he, hb⟩
    refine ⟨ls, by rw [e1]; exact he, ?_, .of_below hb⟩
    unfold addR
    rw [e1, if_neg (by decide)]
    exact (h.below hb).less (by omega) (Nat.le_refl _)
/-- Slices of pairs of the call's own stay. -/
theorem pai_kf {B' : Nat} {v : Value} {zs : List Pai} (h : OwnPai B' W v zs) (hk : KF B C W W') : OwnPai B' W' v zs := by
  refine ⟨h.1, ?_⟩
  rcases h.2 with hn | ⟨g, cap, cur, hv, hB, hg, rest⟩
  · exact .inl hn
  · exact .inr ⟨g, cap, cur, hv, hB, hk.keep hg (by decide) (by decide), rest⟩
theorem CS.typed {k : CB} {f : Int × Int → Int} {V : Nat → Nat → Nat} {la : La} {m : Nat} (h : CS B k n W f V la m) (hb : ∀ (g : Nat) (cs : Array Value) (T : TypeId), W.heap[g]? = some (Obj.cells cs T (0, 0)) → T ≠ 48 → W'.heap[g]? = W.heap[g]?) (hm : ∀ (g : Nat) es clock, W.heap[g]? = some (Obj.map es clock) → W'.heap[g]? = W.heap[g]?) (hs : W.heap.size ≤ W'.heap.size) : CS B k n W' f V la m := by
  obtain ⟨es, clock, hmm⟩ := h.mp
  have hmb := hm _ _ _ hmm
  refine ⟨(hb _ _ 56 h.head (by decide)).trans h.head, h.map.heap hmb, fun a ha i hi => ?_, fun a ha i hi => ?_, h.inj, fun x hx => ?_, h.ge, h.hn, Nat.le_trans h.size hs, ⟨es, clock, hmb.trans hmm⟩⟩
  · obtain ⟨g, cur, s1, s2, s3⟩ := h.sl a ha i hi
    exact ⟨g, cur, s1, (hb _ _ _ s2 (by decide)).trans s2, s3⟩
  · have := h.row a ha i hi
    exact this.keep (hb _ _ _ this.1 (by decide)) (hb _ _ _ this.2.1 (by decide))
  · obtain ⟨r1, r2, r3⟩ := h.lst x hx
    exact ⟨r1.keep (hb _ _ _ r1.1 (by decide)) (hb _ _ _ r1.2.1 (by decide)), r2, r3⟩
theorem QS.pairs (h : QS B C D b n q ls M W) {B' : Nat} {v : Value} {zs : List Pai} (ho : OwnPai B' W v zs) (hg : W.grownBy W' v.ownBlock) : QS B C D b n q ls M W' := by
  obtain ⟨⟨k, V, la, m, f, h0, h1, h2⟩, h3⟩ := h
  have key : ∀ g o, W.heap[g]? = some o → (∀ cs, o ≠ Obj.cells cs 48 (0, 0)) → W'.heap[g]? = W.heap[g]? := fun g o hgo hne => hg.block g (heap_lt hgo) (fun e => by
    rcases ho.2 with ⟨hv, _⟩ | ⟨g', cap, cur, hv, _, hg', _⟩
    · rw [hv] at e; cases e
    · rw [hv] at e
      injection e with e
      rw [e, hg'] at hgo
      injection hgo with hgo
      exact hne cur hgo.symm)
  refine ⟨⟨k, V, la, m, f, h0, h1.typed (fun g cs T hgc hT => key g _ hgc (fun cs' e => ?_)) (fun g es cl hgm => key g _ hgm (fun cs' e => by cases e)) hg.size, h2⟩, h3⟩
  simp only [Obj.cells.injEq] at e
  exact hT e.2.1
/-- Two closures, and what was there ahead of them. -/
structure W2 (w0 : World) (Ca Cb Bb ba bb n : Nat) (qa qb : List Pai) (Ma Mb : Nat) (w : World) : Prop where
  a : ∃ ls, QS w0.heap.size Ca Cb ba n qa ls Ma w
  b : ∃ ls, QS Bb Cb Cb bb n qb ls Mb w
  bel : Below w0.heap.size w0 w
  ord : w0.heap.size ≤ Ca ∧ Ca ≤ Bb ∧ Bb ≤ Cb ∧ Cb ≤ w.heap.size
section
variable {w0 w w' : World} {Ca Cb Bb ba bb n Ma Mb : Nat} {qa qb : List Pai}
theorem W2.below (h : W2 w0 Ca Cb Bb ba bb n qa qb Ma Mb w) (hb : Below w.heap.size w w') : W2 w0 Ca Cb Bb ba bb n qa qb Ma Mb w' := by
  obtain ⟨⟨l1, h1⟩, ⟨l2, h2⟩, h3, h4, h5, h6, h7⟩ := h
  exact ⟨⟨l1, h1.below hb⟩, ⟨l2, h2.below hb⟩, h3.trans (hb.mono h3.size), h4, h5, h6, Nat.le_trans h7 hb.size⟩
theorem W2.tab (h : W2 w0 Ca Cb Bb ba bb n qa qb Ma Mb w) (hT : TabW w0) : TabW w := hT.below h.bel
theorem W2.inA (h : W2 w0 Ca Cb Bb ba bb n qa qb Ma Mb w) {qa' : List Pai} {ls' : List Int} {Ma' : Nat} (h1 : QS w0.heap.size Ca Cb ba n qa' ls' Ma' w') (hk : KF w0.heap.size Ca w w') : W2 w0 Ca Cb Bb ba bb n qa' qb Ma' Mb w' := by
  obtain ⟨_, ⟨l2, h2⟩, h3, h4, h5, h6, h7⟩ := h
  exact ⟨⟨_, h1⟩, ⟨l2, h2.apart hk (.inl h5) (by omega)⟩, h3.trans (hk.old h3.size), h4, h5, h6, Nat.le_trans h7 hk.size⟩
theorem W2.inB (h : W2 w0 Ca Cb Bb ba bb n qa qb Ma Mb w) {qb' : List Pai} {ls' : List Int} {Mb' : Nat} (h1 : QS Bb Cb Cb bb n qb' ls' Mb' w') (hk : KF Bb Cb w w') : W2 w0 Ca Cb Bb ba bb n qa qb' Ma Mb' w' := by
  obtain ⟨⟨l1, h2⟩, _, h3, h4, h5, h6, h7⟩ := h
  exact ⟨⟨l1, h2.apart hk (.inr h5) (Nat.le_refl _)⟩, ⟨_, h1⟩, h3.trans ((hk.old (by omega)).mono (by omega)), h4, h5, h6, Nat.le_trans h7 hk.size⟩
theorem W2.addA (h : W2 w0 Ca Cb Bb ba bb n qa qb Ma Mb w) (hT : TabW w0) (hM : Ma ≤ 1000) (hq : qa.length ≤ 1000) (u v : Int) : Calls Tryd.prog 10 #[.pointer (some ⟨ba, 0, none⟩), .int .i64 u, .int .i64 v] w fun e w' => e = .returned (.int .i64 (if inR n ⟨u, v⟩ then 0 else 1)) ∧ W2 w0 Ca Cb Bb ba bb n (addR n qa ⟨u, v⟩) qb (Ma + 1) Mb w' ∧ KF w0.heap.size Ca w w' := by
  obtain ⟨ls, h1⟩ := h.a
  refine (add_every h1 h.ord.2.2.2 (h.tab hT) hT.2 hM hq u v).mono ?_
  rintro e w' ⟨ls', he, h2, hk⟩
  exact ⟨he, h.inA h2 hk, hk⟩
theorem W2.addB (h : W2 w0 Ca Cb Bb ba bb n qa qb Ma Mb w) (hT : TabW w0) (hM : Mb ≤ 1000) (hq : qb.length ≤ 1000) (u v : Int) : Calls Tryd.prog 10 #[.pointer (some ⟨bb, 0, none⟩), .int .i64 u, .int .i64 v] w fun e w' => e = .returned (.int .i64 (if inR n ⟨u, v⟩ then 0 else 1)) ∧ W2 w0 Ca Cb Bb ba bb n qa (addR n qb ⟨u, v⟩) Ma (Mb + 1) w' ∧ KF Bb Cb w w' := by
  obtain ⟨ls, h1⟩ := h.b
  refine (add_every h1 h.ord.2.2.2 (h.tab hT) (by have := hT.2; have := h.ord; omega) hM hq u v).mono ?_
  rintro e w' ⟨ls', he, h2, hk⟩
  exact ⟨he, h.inB h2 hk, hk⟩
theorem W2.dropA (h : W2 w0 Ca Cb Bb ba bb n qa qb Ma Mb w) (hT : TabW w0) (hM : Ma ≤ 1000) (hq : qa.length ≤ 1000) {p : Pai} (hp : p ∈ qa) (hr : inR n p = true) : Calls Tryd.prog 11 #[.pointer (some ⟨ba, 0, none⟩), .int .i64 p.k, .int .i64 p.v] w fun e w' => e = .returned (.int .i64 0) ∧ W2 w0 Ca Cb Bb ba bb n (dropP qa p.k p.v) qb (Ma + 1) Mb w' ∧ KF w0.heap.size Ca w w' := by
  obtain ⟨ls, h1⟩ := h.a
  have hr := of_decide_eq_true hr
  refine (drop_q h1 h.ord.2.2.2 (h.tab hT) hT.2 hM hq hr.1 hr.2 (by cases p; exact hp)).mono ?_
  rintro e w' ⟨he, h2, hk⟩
  exact ⟨he, h.inA h2 hk, hk⟩
theorem W2.rowA (h : W2 w0 Ca Cb Bb ba bb n qa qb Ma Mb w) (hT : TabW w0) {u : Nat} (hu : u < n) : Calls Tryd.prog 18 #[.pointer (some ⟨ba, 0, none⟩), .int .i64 (u : Int)] w (NumW w (rowD qa (u : Int))) := by
  obtain ⟨ls, h1⟩ := h.a
  have := row_q h1 (h.tab hT) (u : Int)
  rwa [show isN n (u : Int) = true from decide_eq_true (by omega), if_pos rfl] at this
theorem W2.rowB (h : W2 w0 Ca Cb Bb ba bb n qa qb Ma Mb w) (hT : TabW w0) {u : Nat} (hu : u < n) : Calls Tryd.prog 18 #[.pointer (some ⟨bb, 0, none⟩), .int .i64 (u : Int)] w (NumW w (rowD qb (u : Int))) := by
  obtain ⟨ls, h1⟩ := h.b
  have := row_q h1 (h.tab hT) (u : Int)
  rwa [show isN n (u : Int) = true from decide_eq_true (by omega), if_pos rfl] at this
theorem W2.less (h : W2 w0 Ca Cb Bb ba bb n qa qb Ma Mb w) {Ma' Mb' : Nat} (h1 : Ma ≤ Ma') (h2 : Mb ≤ Mb') : W2 w0 Ca Cb Bb ba bb n qa qb Ma' Mb' w := by
  obtain ⟨⟨l1, h3⟩, ⟨l2, h4⟩, h5, h6⟩ := h
  exact ⟨⟨l1, h3.less h1 (Nat.le_refl _)⟩, ⟨l2, h4.less h2 (Nat.le_refl _)⟩, h5, h6⟩
theorem W2.pairs (h : W2 w0 Ca Cb Bb ba bb n qa qb Ma Mb w) {v : Value} {zs : List Pai} (ho : OwnPai Cb w v zs) (hg : w.grownBy w' v.ownBlock) : W2 w0 Ca Cb Bb ba bb n qa qb Ma Mb w' := by
  obtain ⟨⟨l1, h1⟩, ⟨l2, h2⟩, h3, h4, h5, h6, h7⟩ := h
  exact ⟨⟨l1, h1.pairs ho hg⟩, ⟨l2, h2.pairs ho hg⟩, h3.grown hg h3.size (fun k e => by have := (ho.base k e).1; omega), h4, h5, h6, Nat.le_trans h7 hg.size⟩
theorem W2.rngA (h : W2 w0 Ca Cb Bb ba bb n qa qb Ma Mb w) : Rng n qa := by obtain ⟨ls, h1⟩ := h.a; exact h1.rng
theorem W2.rngB (h : W2 w0 Ca Cb Bb ba bb n qa qb Ma Mb w) : Rng n qb := by obtain ⟨ls, h1⟩ := h.b; exact h1.rng
end
end Go.Proofs.YtakgepdlninnhaaDoor.Cs
namespace Go.Proofs.YtakgepdlninnhaaDoor.Cs
open Go.ChangeShapes Go.WideShapes Go.ChangeAt Go.RowKit Base F Bits Df Cl Sc Gr
def TruP (w : World) (e : Ending) (w' : World) : Prop := e = .returned (.bool true) ∧ Below w.heap.size w w'
set_option maxHeartbeats 16000000 in
set_option maxRecDepth 100000 in
theorem lives_cs (w0 : World) (hT : TabW w0) : Calls Tryd.prog 6 #[] w0 (TruP w0) := by
  have HT := Lib.hid hT
  clear hT
  go_enter Tryd.func6, Tryd.ntmps6
  go_wp2_with fail
  refine (new_q 3 _).mono ?_
  intro e w1 hp
  obtain ⟨b, rfl, J1⟩ := CJ.new (n := 3) (by rfl) hp
  obtain ⟨C, hC⟩ : ∃ C, C = w1.heap.size := ⟨_, rfl⟩
  rw [← hC] at J1
  clear hp hC
  go_wp2_with fail
  refine (last_is J1.out HT.out).mono ?_
  intro e w2 hp
  obtain ⟨pl0, cl0, rfl, J2⟩ := J1.out.num (k := 0) rfl hp
  clear hp J1
  go_wp2_with fail
  refine (add_is J2.out HT.out (u := 0) (v := 1) (q' := [⟨0, 1⟩]) (ls' := [0]) (M' := 1) rfl (by omega) (by decide) (by decide) (by decide) rfl (by kernel_rfl)).mono ?_
  intro e w3 hp
  obtain ⟨rfl, J3⟩ := J2.out.ch hp
  clear hp J2
  go_wp2_with fail
  refine (add_is J3.out HT.out (u := 1) (v := 2) (q' := [⟨0, 1⟩, ⟨1, 2⟩]) (ls' := [0, 1]) (M' := 2) rfl (by omega) (by decide) (by decide) (by decide) rfl (by kernel_rfl)).mono ?_
  intro e w4 hp
  obtain ⟨rfl, J4⟩ := J3.out.ch hp
  clear hp J3
  go_wp2_with fail
  refine (row_is J4.out HT.out (u := 0) (zs := [1, 2]) (by decide) (by kernel_rfl)).mono ?_
  intro e w5 hp
  obtain ⟨pl5, cl5, rfl, J5⟩ := J4.out.num (k := 2) rfl hp
  clear hp J4
  go_wp2_with fail
  refine (add_is J5.out HT.out (u := 2) (v := 0) (q' := [⟨0, 1⟩, ⟨1, 2⟩, ⟨2, 0⟩]) (ls' := [0, 1, 2]) (M' := 3) rfl (by omega) (by decide) (by decide) (by decide) rfl (by kernel_rfl)).mono ?_
  intro e w6 hp
  obtain ⟨rfl, J6⟩ := J5.out.ch hp
  clear hp J5
  go_wp2_with fail
  refine (last_is J6.out HT.out).mono ?_
  intro e w7 hp
  obtain ⟨pl7, cl7, rfl, J7⟩ := J6.out.num (k := 3) rfl hp
  clear hp J6
  go_wp2_with fail
  refine (add_bad J7.out.qs.v 3 0 (by decide)).mono ?_
  intro e w8 hp
  obtain ⟨rfl, J8⟩ := J7.out.held hp
  clear hp J7
  go_wp2_with fail
  refine (dropn_is J8.out (u := 1) (v := 0) (by decide) (by decide) (by decide)).mono ?_
  intro e w9 hp
  obtain ⟨rfl, J9⟩ := J8.out.held hp
  clear hp J8
  go_wp2_with fail
  refine (drop_bad J9.out.qs.v (-1) 0 (by decide)).mono ?_
  intro e w10 hp
  obtain ⟨rfl, J10⟩ := J9.out.held hp
  clear hp J9
  go_wp2_with fail
  refine (last_is J10.out HT.out).mono ?_
  intro e w11 hp
  obtain ⟨pla, cla, rfl, J11⟩ := J10.out.num (k := 3) rfl hp
  clear hp J10
  go_wp2_with fail
  refine (same_lit J11.out (zs := [0, 1, 2]) (List.mem_cons_self) rfl (by rfl) (by rfl) rfl (by decide)).mono ?_
  rintro e w12 ⟨rfl, J12⟩
  clear J11
  go_wp2_with fail
  refine (reaches_is J12.out (u := 1) (v := 1) (r := true) (by kernel_rfl)).mono ?_
  intro e w13 hp
  obtain ⟨rfl, J13⟩ := J12.out.held hp
  clear hp J12
  go_wp2_with fail
  refine (row_is J13.out HT.out (u := 2) (zs := [0, 1, 2]) (by decide) (by kernel_rfl)).mono ?_
  intro e w14 hp
  obtain ⟨plb, clb, rfl, J14⟩ := J13.out.num (k := 3) rfl hp
  clear hp J13
  go_wp2_with fail
  refine (same_lit J14.out (zs := [0, 1, 2]) (List.mem_cons_self) rfl (by rfl) (by rfl) rfl (by decide)).mono ?_
  rintro e w15 ⟨rfl, J15⟩
  clear J14
  go_wp2_with fail
  refine (add_is J15.out HT.out (u := 1) (v := 2) (q' := [⟨0, 1⟩, ⟨1, 2⟩, ⟨2, 0⟩, ⟨1, 2⟩]) (ls' := []) (M' := 4) rfl (by omega) (by decide) (by decide) (by decide) rfl (by kernel_rfl)).mono ?_
  intro e w16 hp
  obtain ⟨rfl, J16⟩ := J15.out.ch hp
  clear hp J15
  go_wp2_with fail
  refine (last_is J16.out HT.out).mono ?_
  intro e w17 hp
  obtain ⟨plc, clc, rfl, J17⟩ := J16.out.num (k := 0) rfl hp
  clear hp J16
  go_wp2_with fail
  refine (drop_is J17.out HT.out (u := 1) (v := 2) (q' := [⟨0, 1⟩, ⟨2, 0⟩, ⟨1, 2⟩]) (ls' := []) (M' := 5) rfl (by omega) (by decide) (by decide) (by decide) (by decide) rfl (by kernel_rfl)).mono ?_
  intro e w18 hp
  obtain ⟨rfl, J18⟩ := J17.out.ch hp
  clear hp J17
  go_wp2_with fail
  refine (drop_is J18.out HT.out (u := 1) (v := 2) (q' := [⟨0, 1⟩, ⟨2, 0⟩]) (ls' := [0, 1, 2]) (M' := 6) rfl (by omega) (by decide) (by decide) (by decide) (by decide) rfl (by kernel_rfl)).mono ?_
  intro e w19 hp
  obtain ⟨rfl, J19⟩ := J18.out.ch hp
  clear hp J18
  go_wp2_with fail
  refine (same_lit J19.out (zs := [1, 2]) (List.mem_cons_of_mem _ (List.mem_cons_of_mem _ (List.mem_cons_of_mem _ (List.mem_cons_of_mem _ (List.mem_cons_self))))) rfl (by rfl) (by rfl) rfl (by decide)).mono ?_
  rintro e w20 ⟨rfl, J20⟩
  clear J19
  go_wp2_with fail
  refine (same_lit J20.out (zs := [0, 1, 2]) (List.mem_cons_of_mem _ (List.mem_cons_of_mem _ (List.mem_cons_of_mem _ (List.mem_cons_self)))) rfl (by rfl) (by rfl) rfl (by decide)).mono ?_
  rintro e w21 ⟨rfl, J21⟩
  clear J20
  go_wp2_with fail
  refine (reaches_is J21.out (u := 1) (v := 1) (r := false) (by kernel_rfl)).mono ?_
  intro e w22 hp
  obtain ⟨rfl, J22⟩ := J21.out.held hp
  clear hp J21
  go_wp2_with fail
  refine (row_is J22.out HT.out (u := 2) (zs := [0, 1]) (by decide) (by kernel_rfl)).mono ?_
  intro e w23 hp
  obtain ⟨pld, cld, rfl, J23⟩ := J22.out.num (k := 2) rfl hp
  clear hp J22
  go_wp2_with fail
  refine (same_lit J23.out (zs := [0, 1]) (List.mem_cons_self) rfl (by rfl) (by rfl) rfl (by decide)).mono ?_
  rintro e w24 ⟨rfl, J24⟩
  clear J23
  go_wp2_with fail
  refine (arcs_is J24.out (by decide) (u := 0) (v := 1) (r := 1) (by kernel_rfl)).mono ?_
  intro e w25 hp
  obtain ⟨rfl, J25⟩ := J24.out.held hp
  clear hp J24
  go_wp2_with fail
  refine (arcs_is J25.out (by decide) (u := 1) (v := 2) (r := 0) (by kernel_rfl)).mono ?_
  intro e w26 hp
  obtain ⟨rfl, J26⟩ := J25.out.held hp
  clear hp J25
  go_wp2_with fail
  refine (nodes_any J26.out.qs.v).mono ?_
  intro e w27 hp
  obtain ⟨rfl, J27⟩ := J26.out.held hp
  clear hp J26
  go_wp2_with fail
  refine (add_bad (n := 0) (.inl ⟨rfl, rfl⟩) 0 0 (by decide)).mono ?_
  intro e w28 hp
  obtain ⟨rfl, J28⟩ := J27.out.held hp
  clear hp J27
  go_wp2_with fail
  refine (nodes_any (n := 0) (.inl ⟨rfl, rfl⟩)).mono ?_
  intro e w29 hp
  obtain ⟨rfl, J29⟩ := J28.out.held hp
  clear hp J28
  go_wp2_with fail
  refine (row_nil 0 _).mono ?_
  intro e w30 hp
  obtain ⟨rfl, J30⟩ := J29.out.held hp
  clear hp J29
  go_wp2_with fail
  refine (reaches_nil 0 0 _).mono ?_
  intro e w31 hp
  obtain ⟨rfl, J31⟩ := J30.out.held hp
  clear hp J30
  go_wp2_with fail
  go_ret
  exact ⟨rfl, J31.out.bel⟩
end Go.Proofs.YtakgepdlninnhaaDoor.Cs
