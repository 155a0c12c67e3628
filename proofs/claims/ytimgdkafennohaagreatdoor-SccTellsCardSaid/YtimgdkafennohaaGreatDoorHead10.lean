/-
  Contracts of small functions, several texts laid into one. Not a statement of the seat.
-/
import Derived.Test.YtimgdkafennohaaGreatDoorScS
import Derived.Deep.RegionHeld3
import Derived.LoopTactic
namespace Go.Proofs.YtimgdkafennohaaGreatDoor.Sc
open Go.ChangeShapes Go.WideShapes Go.ChangeAt Go.RowKit Base F Bits
variable {B : Nat} {k : Blk} {n : Nat} {fv : Value} {W : World} {o : Option Nat} {s : St}
theorem FS.cells (h : FS B k n fv W o s) : (W.cell? ⟨k.b, 0, none⟩ = some fv ∧ W.cell? ⟨k.b, 1, none⟩ = some (.int .i64 (s.met : Nat)) ∧ W.cell? ⟨k.b, 2, none⟩ = some (.slice (some ⟨k.bn, 0, none⟩) n n) ∧ W.cell? ⟨k.b, 3, none⟩ = some (.slice (some ⟨k.bl, 0, none⟩) n n) ∧ W.cell? ⟨k.b, 4, none⟩ = some (.pointer (some ⟨k.bs, 0, none⟩)) ∧ W.cell? ⟨k.b, 5, none⟩ = some (.pointer (some ⟨k.br, 0, none⟩)) ∧ W.cell? ⟨k.b, 6, none⟩ = some (.slice (some ⟨k.bL, 0, none⟩) n n)) ∧ W.frozen? ⟨k.b, 1, none⟩ = false := by
  have hh := h.head
  unfold finB at hh
  simp [World.cell?, World.frozen?, hh]
theorem ints_cell {g n : Nat} {f : Nat → Nat} {T : TypeId} {W : World} (h : W.heap[g]? = some (.cells (intsF n f) T)) {v : Nat} (hv : v < n) : W.cell? ⟨g, v, none⟩ = some (.int .i64 (f v : Nat)) ∧ W.frozen? ⟨g, v, none⟩ = false := by
  constructor
  · simp only [World.cell?, h]
    simpa using intsF_at (f := f) hv
  · simp [World.frozen?, h]
set_option maxRecDepth 100000 in
theorem isMet_any (h : FS B k n fv W o s) {v : Nat} (hv : v < n) : Calls Tryz.prog 27 #[.pointer (some ⟨k.b, 0, none⟩), .int .i64 (v : Nat)] W fun e W' => e = .returned (.bool (decide (s.num v ≠ 0))) ∧ W = W' := by
  obtain ⟨⟨_, _, c2, _⟩, _⟩ := h.cells
  obtain ⟨c, _⟩ := ints_cell h.num hv
  have hn := h.hn
  have hvi : (v : Int) < (n : Int) := by omega
  generalize s.num v = x at c
  clear h
  go_enter Tryz.func27, Tryz.ntmps27
  go_wp2
  go_ret
  exact ⟨ret_bool (by rw [decide_eq_decide]; omega), rfl⟩
set_option maxRecDepth 100000 in
set_option maxHeartbeats 4000000 in
theorem meet_any (h : FS B k n fv W o s) {nx : Nat → List Nat} (hi : Inv nx s) {v : Nat} (hv : v < n) (h0 : s.num v = 0) (hm : s.met + unmet n s.num = n) : Calls Tryz.prog 45 #[.pointer (some ⟨k.b, 0, none⟩), .int .i64 (v : Nat)] W fun e W' => e = .returned (.tuple #[]) ∧ Stp B k n fv o W (meetS s v) W' := by
  obtain ⟨⟨c0, c1, c2, c3, c4, c5, c6⟩, f1⟩ := h.cells
  have hn := h.hn
  have hvi : (v : Int) < (n : Int) := by omega
  have hup := unmet_pos hv h0
  obtain ⟨m, hme⟩ : ∃ m, m = s.met := ⟨_, rfl⟩
  have hmn : (m : Int) + 1 ≤ 4096 := by omega
  have hw : IntKind.i64.wrap ((m : Int) + 1) = (m : Int) + 1 := by rw [IntKind.wrap_i64]; omega
  rw [← hme] at c1
  -- the world behind the number
  obtain ⟨W1, hW1⟩ : ∃ W1, W1 = W.setCell ⟨k.b, 1, none⟩ (.int .i64 ((m : Int) + 1)) := ⟨_, rfl⟩
  have e1 : (((m + 1 : Nat) : Nat) : Int) = (m : Int) + 1 := by omega
  have h1 := h.setMet (m + 1)
  rw [e1, ← hW1] at h1
  obtain ⟨W2, hW2⟩ : ∃ W2, W2 = W1.setCell ⟨k.bn, v, none⟩ (.int .i64 ((m : Int) + 1)) := ⟨_, rfl⟩
  have h2 := h1.setNum (v := v) (x := m + 1) hv
  rw [e1, ← hW2] at h2
  obtain ⟨W3, hW3⟩ : ∃ W3, W3 = W2.setCell ⟨k.bl, v, none⟩ (.int .i64 ((m : Int) + 1)) := ⟨_, rfl⟩
  have h3 := h2.setLow (v := v) (x := m + 1) hv
  rw [e1, ← hW3] at h3
  have hlen : s.opn.length < n := by
    have hno : v ∉ s.opn := fun hm => hi.opn v hm h0
    have := nodup_len n (v :: s.opn) (List.nodup_cons.2 ⟨hno, inv_nodup hi⟩) (fun x hx => by
      rcases List.mem_cons.1 hx with rfl | hx
      · exact hv
      · exact h.opn_lt x hx)
    rw [List.length_cons] at this
    exact this
  have HP : Hid (∀ q, Calls Tryz.prog 63 #[.pointer (some ⟨k.bs, 0, none⟩), .int .i64 (v : Nat)] (W3.drewN q) (SPost k.bs o n (natI (v :: s.opn).reverse) (.int .i64 0) (W3.drewN q))) := Lib.hid fun q => by
    rw [natI_snoc]
    exact fspush_ok (h3.stk.below (below_drewN (Below.refl _ _) q)) (by simp [natI]; exact hlen) _
  have HF : Hid (FS B k n fv W3 o { s with met := m + 1, num := put s.num v (m + 1), low := put s.low v (m + 1) } ∧ Fr (FF k o) W W3) := Lib.hid ⟨h3, by
    have r1 : Fr (FF k o) W W1 := by rw [hW1]; exact (Fr.refl _ _).setCell (by unfold FF; simp) _ _
    have r2 : Fr (FF k o) W W2 := by rw [hW2]; exact r1.setCell (by unfold FF; simp) _ _
    rw [hW3]; exact r2.setCell (by unfold FF; simp) _ _⟩
  have hs : meetS s v = { s with met := m + 1, num := put s.num v (m + 1), low := put s.low v (m + 1), opn := v :: s.opn } := by rw [hme]; rfl
  rw [hs]
  obtain ⟨⟨k0, k1, k2, k3, k4, k5, k6⟩, _⟩ := h1.cells
  obtain ⟨g1, g2⟩ := ints_cell h1.num hv
  obtain ⟨g3, g4⟩ := ints_cell h2.low hv
  rw [hW2] at g3 g4
  obtain ⟨⟨l0, l1, l2, l3, l4, l5, l6⟩, _⟩ := h3.cells
  obtain ⟨⟨_, _, _, _, j4, j5, _⟩, _⟩ := h3.cells
  have hno : v ∉ s.opn := fun hm => hi.opn v hm h0
  clear h1 h2 h3 h hi hme hs e1 hlen hup h0
  go_enter Tryz.func45, Tryz.ntmps45
  go_wp2_with fail
  rw [← hW1]
  clear hW1
  go_region
  all_goals (
    rw [← hW2, ← hW3]
    clear hW2 hW3 g1 g2 g3 g4)
  all_goals (
    go_wp2_with fail
    refine (HP.out _).mono ?_
    rintro e w1 ⟨rfl, o1, hs, hmv, hf⟩
    have hm := HF.out.1.below (below_drewN (Below.refl _ _) 1)
    obtain ⟨V, hr, hV⟩ := hm.row
    obtain ⟨⟨m1, _⟩, mr⟩ := hm.mid hf
    have c5 := (World.cell?_of_block (w := W3.drewN 1) (a := ⟨k.b, 5, none⟩) m1).trans hm.cells.1.2.2.2.2.2.1
    have HSET := Lib.hid (set_any k.br k.bw n V (v : Int) true w1 (mr V hr))
    have HK : Hid (∀ e w2, SetPost k.br k.bw n V (v : Int) true w1 e w2 → Stp B k n fv o W { s with met := m + 1, num := put s.num v (m + 1), low := put s.low v (m + 1), opn := v :: s.opn } w2) := Lib.hid fun e w2 hp =>
      Stp.trans (s1 := { s with met := m + 1, num := put s.num v (m + 1), low := put s.low v (m + 1) }) (W1 := W3.drewN 1) ⟨o, hm, Mv.refl _ _, HF.out.2⟩ fun o' h' => by
        have hoo : SAt (W3.drewN 1) k.bs o' n (natI s.opn.reverse) := h'.stk
        have e1 : o' = o := by
          obtain ⟨_, _, x1, y1, z1, t1⟩ := hoo
          obtain ⟨_, _, x2, y2, z2, t2⟩ := hm.stk
          rw [y1] at y2
          simp only [Option.some.injEq, Obj.cells.injEq] at y2
          have := y2.1
          simp at this
          rw [← t1, ← t2, this]
        subst e1
        exact hm.turn (l := v :: s.opn) hv hs hmv hf hV hp (by simp [hno]) (fun y => by by_cases e : y = v <;> simp [e])
    clear hs hmv hf hm m1 mr hr hV HP HF
    go_wp2_with fail
    refine HSET.out.mono ?_
    intro e w2 hp
    have he := hp.1
    subst he
    have HQ := Lib.hid (HK.out _ _ hp)
    clear hp HK HSET
    go_wp2_with fail
    go_end0
    exact ⟨rfl, HQ.out⟩)
end Go.Proofs.YtimgdkafennohaaGreatDoor.Sc
namespace Go.Proofs.YtimgdkafennohaaGreatDoor.Sc
open Go.ChangeShapes Go.WideShapes Go.ChangeAt Go.RowKit Base F Bits
theorem fold_min : ∀ (l : List Int) (a : Int), (l.foldl min a = a ∨ l.foldl min a ∈ l) ∧ l.foldl min a ≤ a ∧ ∀ x ∈ l, l.foldl min a ≤ x
  | [], a => ⟨.inl rfl, Int.le_refl _, fun x hx => by cases hx⟩
  | y :: l, a => by
    obtain ⟨h1, h2, h3⟩ := fold_min l (min a y)
    rw [List.foldl_cons]
    refine ⟨?_, by omega, fun x hx => ?_⟩
    · rcases h1 with h1 | h1
      · rw [h1]
        rcases (show min a y = a ∨ min a y = y by omega) with e | e
        · exact .inl e
        · rw [e]; exact .inr List.mem_cons_self
      · exact .inr (List.mem_cons_of_mem _ h1)
    · rcases List.mem_cons.1 hx with rfl | hx
      · omega
      · exact h3 x hx
theorem minOf_nat (X : List Nat) (h : X ≠ []) : Lib.minOf (natI X) = ((minL X : Nat) : Int) := by
  have hm := minL_mem X h
  have hl := minL_le X
  have key : Lib.minOf (natI X) ∈ natI X ∧ ∀ x ∈ natI X, Lib.minOf (natI X) ≤ x := by
    unfold Lib.minOf
    rcases X with _ | ⟨a, X⟩
    · exact absurd rfl h
    · obtain ⟨h1, h2, h3⟩ := fold_min (natI (a :: X)) ((natI (a :: X)).headD 0)
      refine ⟨?_, h3⟩
      rcases h1 with h1 | h1
      · rw [h1]; simp [natI]
      · exact h1
  obtain ⟨k1, k2⟩ := key
  unfold natI at k1 k2
  obtain ⟨y, hy, e⟩ := List.mem_map.1 k1
  have h1 := hl y hy
  have h2 := k2 _ (List.mem_map.2 ⟨minL X, hm, rfl⟩)
  rw [show natI X = X.map fun (x : Nat) => (x : Int) from rfl]
  omega
theorem ownI_same {B : Nat} {w w' : World} {v : Value} {zs : List Int} (h : Lst.OwnI B w v zs) (hb : ∀ g, v.ownBlock = some g → w'.heap[g]? = w.heap[g]?) : Lst.OwnI B w' v zs := by
  refine ⟨h.1, ?_⟩
  rcases h.2 with hn | ⟨g, cap, cur, rfl, hB, hg, rest⟩
  · exact .inl hn
  · exact .inr ⟨g, cap, cur, rfl, hB, (hb g rfl).trans hg, rest⟩
def lenV : Value → Nat
  | .slice _ n _ => n
  | _ => 0
section
variable {B : Nat} {k : Blk} {n : Nat} {fv : Value} {W : World} {o : Option Nat} {s : St} {X rest : List Nat} {v : Nat}
/-- Some were popped. -/
def SL (B : Nat) (k : Blk) (n : Nat) (fv : Value) (W : World) (o : Option Nat) (s : St) (X rest : List Nat) (j : Nat) (l : Value) (w : World) : Prop :=
  (∀ g, FF k o g → g < W.heap.size) ∧ Lst.OwnI W.heap.size w l (natI (X.take j)) ∧ ∃ o', FS B k n fv w o' { s with opn := X.drop j ++ rest } ∧ Mv o o' W ∧ Fr (FF k o) W w ∧ ∀ g, l.ownBlock = some g → o' ≠ some g
theorem FS.ff_lt (h : FS B k n fv W o s) : ∀ g, FF k o g → g < W.heap.size := by
  obtain ⟨h1, h2, h3, h4, h5, h6, h7⟩ := h.lt
  rintro g (rfl | rfl | rfl | rfl | rfl | rfl | rfl | hg)
  any_goals assumption
  exact (h.stk.lt.2 g hg).1
theorem SL.start (h : FS B k n fv W o s) (hX : s.opn = X ++ rest) : SL B k n fv W o s X rest 0 (.slice none 0 0) W := by
  refine ⟨h.ff_lt, Lst.OwnI.nil _ _, o, ?_, Mv.refl _ _, Fr.refl _ _, fun g hg => by cases hg⟩
  rw [List.drop_zero, ← hX]
  exact h
/-- Whether v is open still. -/
theorem SL.has {j : Nat} {l : Value} {w : World} (h : SL B k n fv W o s X rest j l w) (hv : v < n) : (w.cell? ⟨k.b, 4, none⟩ = some (.pointer (some ⟨k.bs, 0, none⟩)) ∧ w.cell? ⟨k.b, 5, none⟩ = some (.pointer (some ⟨k.br, 0, none⟩)) ∧ w.cell? ⟨k.b, 6, none⟩ = some (.slice (some ⟨k.bL, 0, none⟩) n n)) ∧ Calls Tryz.prog 46 #[.pointer (some ⟨k.br, 0, none⟩), .int .i64 (v : Nat)] w fun e w' => e = .returned (.bool (decide (v ∈ X.drop j ++ rest))) ∧ w = w' := by
  obtain ⟨_, _, o', hf, _⟩ := h
  obtain ⟨V, hr, hV⟩ := hf.row
  have hc := hf.cells.1
  refine ⟨⟨hc.2.2.2.2.1, hc.2.2.2.2.2.1, hc.2.2.2.2.2.2⟩, (has_any k.br k.bw n V (v : Int) w hr).mono ?_⟩
  rintro e w' ⟨rfl, rfl⟩
  refine ⟨ret_bool ?_, rfl⟩
  unfold hasI
  rw [decide_eq_true (by omega), Int.toNat_natCast, hV]
  rfl
/-- One more was popped, but is not in the list yet. -/
def SQ (B : Nat) (k : Blk) (n : Nat) (fv : Value) (W : World) (o : Option Nat) (s : St) (X rest : List Nat) (j : Nat) (l : Value) (w : World) : Prop :=
  (∀ g, FF k o g → g < W.heap.size) ∧ Lst.OwnI W.heap.size w l (natI (X.take j)) ∧ ∃ o', FS B k n fv w o' { s with opn := X.drop (j + 1) ++ rest } ∧ Mv o o' W ∧ Fr (FF k o) W w ∧ ∀ g, l.ownBlock = some g → o' ≠ some g
theorem SL.pop {j x : Nat} {l : Value} {w : World} (h : SL B k n fv W o s X rest j l w) (hd : X.drop j = x :: X.drop (j + 1)) (hno : x ∉ X.drop (j + 1) ++ rest) (hx : x < n) :
    Calls Tryz.prog 64 #[.pointer (some ⟨k.bs, 0, none⟩)] w fun e w1 => e = .returned (.tuple #[.int .i64 (x : Nat), .bool true]) ∧ Hid (w1.cell? ⟨k.b, 5, none⟩ = some (.pointer (some ⟨k.br, 0, none⟩)) ∧ Calls Tryz.prog 31 #[.pointer (some ⟨k.br, 0, none⟩), .int .i64 (x : Nat), .bool false] w1 fun e w2 => (∃ b, e = .returned (.bool b)) ∧ SQ B k n fv W o s X rest j l w2) := by
  obtain ⟨hW, ho, o', hf, hm, hr, hne⟩ := h
  have hp := fspop hf.stk
  have e1 : natI (X.drop j ++ rest).reverse = natI (X.drop (j + 1) ++ rest).reverse ++ [(x : Int)] := by rw [hd]; exact natI_snoc _ _
  rw [show ({ s with opn := X.drop j ++ rest } : St).opn = X.drop j ++ rest from rfl, e1] at hp
  refine hp.mono ?_
  rintro e w1 ⟨rfl, o2, hs, hm2, hf2⟩
  refine ⟨by unfold fstV; simp, Lib.hid ?_⟩
  rw [List.dropLast_concat] at hs
  obtain ⟨V, hR, hV⟩ := hf.row
  obtain ⟨⟨m1, _⟩, mr⟩ := hf.mid hf2
  refine ⟨(World.cell?_of_block (w := w) (a := ⟨k.b, 5, none⟩) m1).trans hf.cells.1.2.2.2.2.2.1, ?_⟩
  refine (set_any k.br k.bw n V (x : Int) false w1 (mr V hR)).mono ?_
  intro e w2 hp2
  refine ⟨⟨_, hp2.1⟩, ?_⟩
  have ht := hf.turn (l := X.drop (j + 1) ++ rest) (x := x) (on := false) hx hs hm2 hf2 hV hp2 (by simp [hd]) (fun y => by
    by_cases e : y = x
    · rw [if_pos e, e]; simpa using hno
    · rw [if_neg e]
      have : y ∈ X.drop j ++ rest ↔ y ∈ X.drop (j + 1) ++ rest := by rw [hd]; simp [e]
      rw [decide_eq_decide]
      exact this.symm)
  obtain ⟨o3, h1, h2, h3⟩ := ht
  have hlt := fun g hg => (World.ownsRow.lt ho g hg)
  refine ⟨hW, ownI_same ho fun g hg => h3.block (hlt g hg).2 (fun hF => ?_), o3, h1, hm.trans h2 hr.size, hr.trans h3 (ff_mv hm), fun g hg e => ?_⟩
  · have hge := (hlt g hg).1
    have hF2 : FF k o g ∨ o' = some g := by
      rcases hF with e | e | e | e | e | e | e | e
      all_goals first | exact .inr e | (left; unfold FF; simp [e]; done)
    rcases hF2 with hF2 | e
    · have := hW g hF2; omega
    · exact hne g hg e
  · rcases h2 with rfl | ⟨g', e', hg'⟩
    · exact hne g hg e
    · rw [e] at e'
      have := Option.some.inj e'
      have := (hlt g hg).2
      omega
/-- The one popped is put behind the list. -/
theorem SQ.put {j x : Nat} {l l' : Value} {w w' : World} (h : SQ B k n fv W o s X rest j l w) (ht : natI (X.take (j + 1)) = natI (X.take j) ++ [(x : Int)]) (ho : Lst.OwnI W.heap.size w' l' (natI (X.take j) ++ [(x : Int)])) {lit : Obj} (hg : (w.alloc lit).grownBy w' l.ownBlock) (hat : l'.ownBlock = l.ownBlock ∨ l'.ownBlock = some (w.alloc lit).heap.size) : SL B k n fv W o s X rest (j + 1) l' w' := by
  obtain ⟨hW, h1, o', hf, hm, hr, hne⟩ := h
  have hsz := hr.size
  have hb : Below w.heap.size w (w.alloc lit) := (Below.refl _ _).alloc (Nat.le_refl _) _
  have hlt := fun g hg => (World.ownsRow.lt h1 g hg)
  have hblk : ∀ g, g < w.heap.size → l.ownBlock ≠ some g → w'.heap[g]? = w.heap[g]? := fun g hg1 hn => (hg.block g (Nat.lt_of_lt_of_le hg1 hb.size) (fun e => hn e.symm)).trans (hb.block g hg1)
  have hFFl : ∀ g, FF k o' g → l.ownBlock ≠ some g := fun g hF e => by
    have hF2 : FF k o g ∨ o' = some g := by
      rcases hF with e | e | e | e | e | e | e | e
      all_goals first | exact .inr e | (left; unfold FF; simp [e]; done)
    rcases hF2 with hF2 | e2
    · have := hW g hF2; have := (hlt g e).1; omega
    · exact hne g e e2
  have hl := hf.lt
  obtain ⟨V, hR, hV⟩ := hf.row
  have hsize : w.heap.size ≤ w'.heap.size := Nat.le_trans hb.size hg.size
  refine ⟨hW, by rw [ht]; exact ho, o', ?_, hm, ?_, fun g hg1 e => ?_⟩
  · exact hf.rest (hblk _ hl.1 (hFFl _ (by unfold FF; simp))) (hblk _ hl.2.1 (hFFl _ (by unfold FF; simp))) (hblk _ hl.2.2.1 (hFFl _ (by unfold FF; simp))) (hblk _ hl.2.2.2.2.2.2 (hFFl _ (by unfold FF; simp)))
      (SAt.keep hf.stk (hblk _ hl.2.2.2.1 (hFFl _ (by unfold FF; simp))) (fun g hg1 => hblk g (hf.stk.lt.2 g hg1).1 (hFFl _ (by unfold FF; simp [hg1]))))
      ⟨V, hR.keep (hblk _ hl.2.2.2.2.1 (hFFl _ (by unfold FF; simp))) (hblk _ hl.2.2.2.2.2.1 (hFFl _ (by unfold FF; simp))), hV⟩ hf.own (Nat.le_trans hf.size hsize)
  · refine ⟨hg.os.trans (hb.os.trans hr.1), hg.tape.trans (hb.tape.trans hr.2.1), hg.output.trans (hb.output.trans hr.2.2.1), Nat.le_trans hsz hsize, fun g hg1 hn => ?_⟩
    refine (hblk g (by omega) (fun e => ?_)).trans (hr.block hg1 hn)
    have := (hlt g e).1
    omega
  · rcases hat with h2 | h2
    · exact hne g (h2 ▸ hg1) e
    · rw [hg1] at h2
      have h3 := Option.some.inj h2
      have h4 := (hf.stk.lt.2 g e).1
      have := hb.size
      omega
end
end Go.Proofs.YtimgdkafennohaaGreatDoor.Sc
namespace Go.Proofs.YtimgdkafennohaaGreatDoor.Sc
open Go.ChangeShapes Go.WideShapes Go.ChangeAt Go.RowKit Base F Bits
variable {B : Nat} {k : Blk} {n : Nat} {fv : Value} {W : World} {o : Option Nat} {s : St} {X rest : List Nat} {v : Nat}
theorem SQ.size {j : Nat} {l : Value} {w : World} (h : SQ B k n fv W o s X rest j l w) : W.heap.size ≤ w.heap.size := h.2.2.choose_spec.2.2.1.size
/-- Some were labelled. -/
def LB (B : Nat) (k : Blk) (n : Nat) (fv : Value) (W : World) (o o' : Option Nat) (s : St) (X rest : List Nat) (l : Value) (j : Nat) (w : World) : Prop :=
  FS B k n fv w o' { s with opn := rest, lab := labs (minL X) s.lab (X.take j) } ∧ Fr (FF k o) W w ∧ Lst.OwnI W.heap.size w l (natI X)
theorem LB.step {o' : Option Nat} {l : Value} {j x : Nat} {w : World} (h : LB B k n fv W o o' s X rest l j w) (hW : ∀ g, FF k o g → g < W.heap.size) (hx : X.take (j + 1) = X.take j ++ [x]) (hn : x < n) : LB B k n fv W o o' s X rest l (j + 1) (w.setCell ⟨k.bL, x, none⟩ (.int .i64 ((minL X : Nat) : Int))) := by
  obtain ⟨h1, h2, h3⟩ := h
  refine ⟨?_, h2.setCell (by unfold FF; simp) _ _, ownI_same h3 fun g hg => setO fun e => ?_⟩
  · rw [hx, labs_snoc]
    exact h1.setLab (x := minL X) hn
  · have := (World.ownsRow.lt h3 g hg).1
    have := hW k.bL (by unfold FF; simp)
    omega
theorem SL.end_ {l : Value} {w : World} (h : SL B k n fv W o s X rest X.length l w) : ∃ o', LB B k n fv W o o' s X rest l 0 w ∧ Mv o o' W ∧ ∀ g, FF k o g → g < W.heap.size := by
  obtain ⟨hW, h1, o', hf, hm, hr, _⟩ := h
  rw [List.take_length] at h1
  rw [List.drop_length] at hf
  exact ⟨o', ⟨hf, hr, h1⟩, hm, hW⟩
theorem LB.end_ {o' : Option Nat} {l : Value} {w : World} (h : LB B k n fv W o o' s X rest l X.length w) (hm : Mv o o' W) : Stp B k n fv o W (shutS s rest X) w := by
  obtain ⟨h1, h2, _⟩ := h
  rw [List.take_length, labs_eq] at h1
  exact ⟨o', h1, hm, h2⟩
theorem natI_len (l : List Nat) : (natI l).length = l.length := by simp [natI]
theorem natI_getD (l : List Nat) (j : Nat) : (natI l).getD j 0 = ((l.getD j 0 : Nat) : Int) := by
  unfold natI
  rw [List.getD_eq_getElem?_getD, List.getD_eq_getElem?_getD, List.getElem?_map]
  cases l[j]? <;> rfl
theorem slice_form {w : World} {l : Value} {zs : List Int} {B : Nat} (h : Lst.OwnI B w l zs) (hz : zs ≠ []) : ∃ g c, l = .slice (some ⟨g, 0, none⟩) zs.length c := by
  rcases h.form with ⟨h1, _⟩ | ⟨g, c, h1, _⟩
  · exact absurd h1 hz
  · exact ⟨g, c, h1⟩
set_option maxRecDepth 100000 in
set_option maxHeartbeats 8000000 in
theorem settle_any (h : FS B k n fv W o s) (hX : s.opn = X ++ rest) (hnd : s.opn.Nodup) (hv : v < n) (hlast : ∃ Y, X = Y ++ [v]) : Calls Tryz.prog 47 #[.pointer (some ⟨k.b, 0, none⟩), .int .i64 (v : Nat)] W fun e W' => e = .returned (.tuple #[]) ∧ Stp B k n fv o W (shutS s rest X) W' := by
  have H0 := Lib.hid (SL.start h hX)
  rw [hX] at hnd
  have hlt := h.opn_lt
  rw [hX] at hlt
  have hn := h.hn
  have hXl : X.length ≤ n := nodup_len n X (hnd.sublist (List.sublist_append_left _ _)) (fun x hx => hlt x (List.mem_append_left _ hx))
  obtain ⟨Y, hY⟩ := hlast
  have HALL : Hid (∀ j, j < X.length → ∃ x, X.drop j = x :: X.drop (j + 1) ∧ x ∉ X.drop (j + 1) ++ rest ∧ x < n ∧ X.take (j + 1) = X.take j ++ [x] ∧ X.getD j 0 = x ∧ v ∈ X.drop j ++ rest) := Lib.hid fun j hj => by
    have hd : X.drop j = X[j] :: X.drop (j + 1) := List.drop_eq_getElem_cons hj
    refine ⟨X[j], hd, fun hm => ?_, hlt _ (List.mem_append_left _ (List.getElem_mem hj)), List.take_succ_eq_append_getElem hj, by simp [List.getD_eq_getElem?_getD, hj], ?_⟩
    · have h2 : X.take j ++ (X[j] :: (X.drop (j + 1) ++ rest)) = X ++ rest := by
        rw [← List.cons_append, ← hd, ← List.append_assoc, List.take_append_drop]
      rw [← h2, List.nodup_append] at hnd
      exact (List.nodup_cons.1 hnd.2.1).1 hm
    · refine List.mem_append_left _ ?_
      rw [hY]
      rw [hY, List.length_append, List.length_singleton] at hj
      rw [List.drop_append_of_le_length (by omega)]
      simp
  have HEND : Hid (decide (v ∈ X.drop X.length ++ rest) = false) := Lib.hid (by
    rw [List.drop_length, List.nil_append, decide_eq_false_iff_not]
    intro hm
    rw [List.nodup_append] at hnd
    exact hnd.2.2 v (by rw [hY]; simp) v hm rfl)
  have hne : X ≠ [] := by rw [hY]; simp
  have HMIN := Lib.hid (minOf_nat X hne)
  have HNE := Lib.hid hne
  obtain ⟨N, hN⟩ : ∃ N, N = X.length := ⟨_, rfl⟩
  have HN := Lib.hid hN
  have hN4 : (N : Int) ≤ 4096 := by omega
  clear h hX hnd hlt hXl hY hne
  rw [← hN] at HALL HEND
  clear hN
  go_enter Tryz.func47, Tryz.ntmps47
  go_wp2_with fail
  go_loopw [4] (fun s4 wr => ∃ (j : Nat) (p : Option Addr) (c : Nat), s4 = .slice p j c ∧ j ≤ N ∧ Hid (SL B k n fv W o s X rest j (.slice p j c) wr)) (fun s4 _ => N - lenV s4)
  case atStart => exact ⟨0, none, 0, rfl, Nat.zero_le _, H0⟩
  case round =>
    clear H0
    obtain ⟨j, p, c, rfl, hj, HS⟩ := hrel
    obtain ⟨⟨c4, c5, c6⟩, hh⟩ := HS.out.has hv
    by_cases hlt : j < N
    · obtain ⟨x, hd, hno, hxn, htk, _, hvm⟩ := HALL.out j hlt
      rw [decide_eq_true hvm] at hh
      have HH := Lib.hid hh
      have HP := Lib.hid (HS.out.pop hd hno hxn)
      have HT : Hid (natI (X.take (j + 1)) = natI (X.take j) ++ [(x : Int)]) := Lib.hid (by rw [htk]; simp [natI])
      have HTL : Hid ((natI (X.take j)).length = j) := Lib.hid (by rw [natI_len, List.length_take]; have := HN.out; omega)
      clear hd hno hxn htk hvm hh HS
      go_wp2_with fail
      refine HH.out.mono ?_
      rintro e w1 ⟨rfl, rfl⟩
      go_wp2_with fail
      refine HP.out.mono ?_
      rintro e w1 ⟨rfl, hq⟩
      obtain ⟨d5, hset⟩ := hq.out
      have HSET := Lib.hid hset
      clear hset hq HP HH c4 c5 c6
      go_wp2_with fail
      refine HSET.out.mono ?_
      rintro e w2 ⟨⟨b, rfl⟩, hsq⟩
      have HSQ := Lib.hid hsq
      clear hsq HSET d5
      go_wp2_with (at_builtin; refine Lst.append_ints rfl (.tmp 30) (.tmp 32) rfl (B := W.heap.size) (zs := natI (X.take j)) (ys := [(x : Int)]) (Nat.le_trans HSQ.out.size (by simp)) (HSQ.out.2.1.lay rfl _) rfl (Lst.int_lit (x : Int) _) (fun n c e => by cases e) rfl (by rw [HTL.out]; simp; omega) ?_; intro v2 w3 ho hg2 hat)
      have HPUT := Lib.hid (HSQ.out.put HT.out ho hg2 hat)
      obtain ⟨p2, c2, hv2⟩ : ∃ p c, v2 = .slice p (j + 1) c := by
        rcases ho.form with ⟨h0, _⟩ | ⟨g, c, h1, _⟩
        · simp at h0
        · exact ⟨_, c, by rw [h1, List.length_append, HTL.out]; rfl⟩
      subst hv2
      clear ho hg2 hat HSQ HT HTL
      go_wp2_with fail
      go_roundw
      case rel => exact ⟨j + 1, p2, c2, rfl, by omega, HPUT⟩
      case measure => simp [lenV]; omega
    · have e : j = N := by omega
      subst e
      rw [HEND.out] at hh
      have HH := Lib.hid hh
      have HE : Hid (∃ o', LB B k n fv W o o' s X rest (.slice p j c) 0 wr ∧ Mv o o' W ∧ ∀ g, FF k o g → g < W.heap.size) := Lib.hid (by have h := HS.out; rw [HN.out] at h ⊢; exact h.end_)
      obtain ⟨o', hlb, hmv, hW⟩ := HE.out
      have HLB := Lib.hid hlb
      have HMV := Lib.hid hmv
      have HWW := Lib.hid hW
      obtain ⟨g, hp⟩ : ∃ g, p = some ⟨g, 0, none⟩ := by
        obtain ⟨g, c', hh2⟩ := slice_form hlb.2.2 (by unfold natI; simpa using HNE.out)
        injection hh2 with hh2 _
        exact ⟨g, hh2⟩
      subst hp
      have hjl : j = (natI X).length := by rw [natI_len]; exact HN.out
      have hcells : ∀ w', LB B k n fv W o o' s X rest (.slice (some ⟨g, 0, none⟩) j c) 0 w' → ∀ i, i < (natI X).length → w'.cell? ⟨g, 0 + i, none⟩ = some (.int .i64 ((natI X).getD i 0)) := fun w' hw i hi => by
        rcases hw.2.2.ints (by rw [← hjl]; omega) with ⟨⟨_, _, h0⟩, h1⟩ | ⟨g', o'', c', h1, _, _, _, h2⟩
        · rw [h1] at hi; simp at hi
        · injection h1 with h1 _ _
          injection h1 with h1
          injection h1 with h1 h3
          subst h1 h3
          exact h2 i hi
      have HMN : Hid (Calls Tryz.prog 65 #[.slice (some ⟨g, 0, none⟩) j c] wr fun e w' => e = .returned (.int .i64 ((minL X : Nat) : Int)) ∧ w' = wr) := Lib.hid (by
        have h := Tryz.slices_Min_int g 0 j c (natI X) wr (by rw [hjl, natI_len]; have := List.length_pos_iff.2 HNE.out; omega) (by omega) (by omega) (hcells wr hlb)
        rw [hjl, List.take_length, HMIN.out] at h
        rw [hjl]
        exact h)
      clear hlb hmv hW hh HS HE HEND hcells hjl
      go_wp2_with fail
      refine HH.out.mono ?_
      rintro e w1 ⟨rfl, rfl⟩
      go_wp2_with fail
      refine HMN.out.mono ?_
      rintro e w1 ⟨rfl, rfl⟩
      clear HMN HH
      go_wp2_with fail
      clear c4 c5 c6
      go_loopw [38] (fun s38 wi => ∃ i : Nat, s38 = .int .i64 (i : Int) ∧ i ≤ j ∧ Hid (LB B k n fv W o o' s X rest (.slice (some ⟨g, 0, none⟩) j c) i wi)) (fun s38 _ => j - (intOf s38).toNat)
      case atStart => exact ⟨0, rfl, Nat.zero_le _, HLB⟩
      case round =>
        clear HLB
        obtain ⟨i, rfl, hi, HI⟩ := hrel
        by_cases hil : i < j
        · obtain ⟨x, hd, hno, hxn, htk, hgd, hvm⟩ := HALL.out i hil
          have hc : wr.cell? ⟨g, i, none⟩ = some (.int .i64 (x : Int)) := by
            have hjl : j = (natI X).length := by rw [natI_len]; exact HN.out
            rcases HI.out.2.2.ints (by rw [← hjl]; omega) with ⟨⟨_, _, h0⟩, h1⟩ | ⟨g', o'', c', h1, _, _, _, h2⟩
            · rw [h1] at hjl; simp at hjl; omega
            · injection h1 with h1 _ _
              injection h1 with h1
              injection h1 with h1 h3
              subst h1 h3
              have := h2 i (by omega)
              rw [natI_getD, hgd, Nat.zero_add] at this
              exact this
          have hc6 := HI.out.1.cells.1.2.2.2.2.2.2
          obtain ⟨f1, f2⟩ := ints_cell HI.out.1.lab hxn
          have HST := Lib.hid (HI.out.step HWW.out htk hxn)
          have hxi : (x : Int) < (n : Int) := by omega
          have hni : (n : Int) ≤ 4096 := by omega
          generalize ((minL X : Nat) : Int) = mn at *
          clear hd hno htk hgd hvm HI
          go_wp2_with fail
          go_roundw
          case rel => exact ⟨i + 1, by go_num, by omega, HST⟩
          case measure => simp [intOf]; omega
        · have e : i = j := by omega
          subst e
          have HFIN : Hid (Stp B k n fv o W (shutS s rest X) wr) := Lib.hid (by have h := HI.out; rw [HN.out] at h; exact h.end_ HMV.out)
          clear HI HALL HMIN
          go_wp2_with fail
          go_end0
          exact ⟨rfl, HFIN.out⟩
end Go.Proofs.YtimgdkafennohaaGreatDoor.Sc
namespace Go.Proofs.YtimgdkafennohaaGreatDoor.Sc
open Go.ChangeShapes Go.WideShapes Go.ChangeAt Go.RowKit Base F Bits
/-- What a call that tells a list of numbers leaves. -/
def NumN (w : World) (zs : List Int) (e : Ending) (w' : World) : Prop := ∃ v, e = .returned v ∧ Lst.OwnI w.heap.size w' v zs ∧ Below w.heap.size w w'
/-- A function value tells where a node's arcs go. -/
structure NxOk (W0 : World) (n : Nat) (F : Nat) (lb : Array Value) (nx : Nat → List Nat) : Prop where
  run : ∀ args w, (callFunc F args).run Tryz.prog w = .ok (.enter F args) w
  call : ∀ W (v : Nat), v < n → Below W0.heap.size W0 W → Calls Tryz.prog F (#[.int .i64 (v : Int)] ++ lb) W (NumN W (natI (nx v)))
  lt : ∀ v, v < n → ∀ t ∈ nx v, t < n
  len : ∀ v, v < n → (nx v).length ≤ 1000000
variable {W0 : World} {k : Blk} {n : Nat} {F : Nat} {lb : Array Value} {nx : Nat → List Nat}
def fnV (F : Nat) (lb : Array Value) : Value := .func (.func F) #[] lb
/-- A finder on its way: what is told of a state. -/
def FW (W0 : World) (k : Blk) (n : Nat) (fv : Value) (o : Option Nat) (s : St) (W : World) : Prop := FS W0.heap.size k n fv W o s ∧ Below W0.heap.size W0 W ∧ s.met + unmet n s.num = n
/-- What visit leaves. -/
def VisP (W0 : World) (k : Blk) (n : Nat) (fv : Value) (nx : Nat → List Nat) (v : Nat) (o : Option Nat) (s : St) (W : World) (e : Ending) (W' : World) : Prop :=
  e = .returned (.tuple #[]) ∧ ∃ s' X, Vis nx v s s' X ∧ Stp W0.heap.size k n fv o W s' W' ∧ Below W0.heap.size W0 W' ∧ s'.met + unmet n s'.num = n
theorem Stp.blw {fv : Value} {o : Option Nat} {s s' : St} {W W' : World} (h : Stp W0.heap.size k n fv o W s' W') (hf : FS W0.heap.size k n fv W o s) (hb : Below W0.heap.size W0 W) : Below W0.heap.size W0 W' := by
  obtain ⟨o', _, _, hr⟩ := h
  exact hb.trans (hr.below hf.ff_ge hf.size)
theorem has_fs {fv : Value} {o : Option Nat} {s : St} {W : World} {B : Nat} (hf : FS B k n fv W o s) {t : Nat} (ht : t < n) : Calls Tryz.prog 46 #[.pointer (some ⟨k.br, 0, none⟩), .int .i64 (t : Nat)] W fun e w' => e = .returned (.bool (decide (t ∈ s.opn))) ∧ W = w' := by
  obtain ⟨V, hr, hV⟩ := hf.row
  refine (has_any k.br k.bw n V (t : Int) W hr).mono ?_
  rintro e w' ⟨rfl, rfl⟩
  refine ⟨ret_bool ?_, rfl⟩
  unfold hasI
  rw [decide_eq_true (by omega), Int.toNat_natCast, hV]
  rfl
/-- Where visit's loop is. -/
def LW (W0 : World) (k : Blk) (n : Nat) (fv : Value) (nx : Nat → List Nat) (v : Nat) (s : St) (o1 : Option Nat) (W2 : World) (pre : List Nat) (w : World) : Prop :=
  ∃ s1 X o', Way nx v s pre s1 X ∧ FW W0 k n fv o' s1 w ∧ Mv o1 o' W2 ∧ Fr (FF k o1) W2 w
theorem natI_nat {l : List Nat} {j : Nat} (h : j < l.length) : (natI l).getD j 0 = ((l[j] : Nat) : Int) := by
  rw [natI_getD, List.getD_eq_getElem?_getD, List.getElem?_eq_getElem h]
  rfl
theorem LW.low {fv : Value} {s s1 : St} {o1 o' : Option Nat} {W2 w : World} {pre X : List Nat} {v x : Nat} (hw : Way nx v s pre (lowS s1 v x) X) (h : FW W0 k n fv o' s1 w) (hm : Mv o1 o' W2) (hr : Fr (FF k o1) W2 w) (hv : v < n) : ∀ q, LW W0 k n fv nx v s o1 W2 pre ((w.setCell ⟨k.bl, v, none⟩ (.int .i64 ((x : Nat) : Int))).drewN q) := fun q => by
  obtain ⟨hf, hb, hc⟩ := h
  refine ⟨_, X, o', hw, ⟨(hf.setLow hv).below (below_drewN (Below.refl _ _) q), ?_, hc⟩, hm, (hr.setCell (by unfold FF; simp) _ _).drewN q⟩
  have hge := hf.ge.2.2.1
  exact below_drewN (hb.setCell (p := ⟨k.bl, v, none⟩) hge _) q
set_option maxRecDepth 100000 in
set_option maxHeartbeats 16000000 in
theorem visit_any (hN : NxOk W0 n F lb nx) : ∀ (m : Nat) (W : World) (o : Option Nat) (s : St) (v : Nat), FW W0 k n (fnV F lb) o s W → Inv nx s → v < n → s.num v = 0 → n - s.met ≤ m →
    Calls Tryz.prog 28 #[.pointer (some ⟨k.b, 0, none⟩), .int .i64 (v : Nat)] W (VisP W0 k n (fnV F lb) nx v o s W) := by
  intro m
  induction m with
  | zero =>
    intro W o s v h hi hv h0 hm
    have := unmet_pos hv h0
    have := h.2.2
    omega
  | succ m ih =>
    intro W o s v h hi hv h0 hm
    have IH := Lib.hid ih
    have HNX := Lib.hid hN
    have hrun := hN.run
    obtain ⟨hf, hb, hc⟩ := h
    have hn4 : (n : Int) ≤ 4096 := by have := hf.hn; omega
    have hvi : (v : Int) < (n : Int) := by omega
    have HMEET := Lib.hid (meet_any hf hi hv h0 hc)
    have HS : Hid (Inv nx s ∧ s.num v = 0 ∧ n - s.met ≤ m + 1 ∧ FS W0.heap.size k n (fnV F lb) W o s ∧ Below W0.heap.size W0 W ∧ s.met + unmet n s.num = n) := Lib.hid ⟨hi, h0, hm, hf, hb, hc⟩
    clear ih hN hi h0 hm hf hb hc
    unfold VisP
    go_enter Tryz.func28, Tryz.ntmps28
    go_wp2_with fail
    refine HMEET.out.mono ?_
    rintro e w1 ⟨rfl, hst⟩
    obtain ⟨o1, hf1, hmv1, hr1⟩ := hst
    have hb1 := Stp.blw ⟨o1, hf1, hmv1, hr1⟩ HS.out.2.2.2.1 HS.out.2.2.2.2.1
    have HC := Lib.hid (HNX.out.call w1 v hv hb1)
    obtain ⟨⟨c0, c1, c2, c3, c4, c5, c6⟩, _⟩ := hf1.cells
    unfold fnV at c0
    clear c1 c2 c3 c4 c5 c6
    have H1 : Hid (FW W0 k n (fnV F lb) o1 (meetS s v) w1 ∧ Mv o o1 W ∧ Fr (FF k o) W w1) := Lib.hid ⟨⟨hf1, hb1, by
      have := unmet_put (x := s.met + 1) hv HS.out.2.1 (by omega)
      have h2 := HS.out.2.2.2.2.2
      show s.met + 1 + unmet n (put s.num v (s.met + 1)) = n
      omega⟩, hmv1, hr1⟩
    clear hf1 hb1 hmv1 hr1 HMEET
    go_wp2_with fail
    refine HC.out.mono ?_
    rintro e w2 ⟨lv, rfl, hown, hb2⟩
    obtain ⟨L, hL⟩ : ∃ L, L = (nx v).length := ⟨_, rfl⟩
    have hlen := HNX.out.len v hv
    rw [← hL] at hlen
    have hli : (L : Int) ≤ 1000000 := by omega
    obtain ⟨p, c, hlv, _, hcells⟩ := (hown.ints (by rw [natI_len, ← hL]; omega)).open_
    rw [natI_len, ← hL] at hlv hcells
    subst hlv
    have HV : Hid (∀ j, j < L → ∃ g o', p = some ⟨g, o', none⟩ ∧ ∃ t, (nx v).take (j + 1) = (nx v).take j ++ [t] ∧ t ∈ nx v ∧ t < n ∧ ∀ wr, Fr (FF k o1) w2 wr → wr.cell? ⟨g, o' + j, none⟩ = some (.int .i64 (t : Nat))) := Lib.hid fun j hj => by
      obtain ⟨g, o', hp, _, hg, hcell⟩ := hcells j hj
      have hj2 : j < (nx v).length := by omega
      refine ⟨g, o', hp, (nx v)[j], List.take_succ_eq_append_getElem hj2, List.getElem_mem hj2, HNX.out.lt v hv _ (List.getElem_mem hj2), fun wr hr => ?_⟩
      rw [natI_nat hj2] at hcell
      have hge : w1.heap.size ≤ g := Lst.own_base hown g (by rw [hp]; rfl)
      rw [← hcell]
      refine World.cell?_of_block (w := w2) (a := ⟨g, o' + j, none⟩) (hr.block hg fun hF => ?_)
      have := H1.out.1.1.ff_lt g hF
      omega
    have HL : Hid ((nx v).take L = nx v) := Lib.hid (by rw [hL, List.take_length])
    have H2 : Hid (LW W0 k n (fnV F lb) nx v s o1 w2 ((nx v).take 0) w2) := Lib.hid ⟨meetS s v, [v], o1, Way.start HS.out.1 HS.out.2.1, ⟨H1.out.1.1.below hb2, H1.out.1.2.1.trans (hb2.mono H1.out.1.1.size), H1.out.1.2.2⟩, Mv.refl _ _, Fr.refl _ _⟩
    have HE : Hid (Mv o o1 W ∧ Fr (FF k o) W w2) := Lib.hid ⟨H1.out.2.1, H1.out.2.2.trans (Fr.of_below (F := fun _ => False) hb2) (fun _ _ e => e.elim)⟩
    have hsz := H1.out.2.2.size
    have hsz2 : W.heap.size ≤ w2.heap.size := Nat.le_trans hsz hb2.size
    have HSZ := Lib.hid hsz2
    clear hown hcells hb2 H1 HC c0 hL hlen hsz hsz2
    go_wp2_with fail
    go_loopw [16] (fun s16 wr => ∃ j : Nat, s16 = .int .i64 (j : Int) ∧ j ≤ L ∧ Hid (LW W0 k n (fnV F lb) nx v s o1 w2 ((nx v).take j) wr)) (fun s16 _ => L - (intOf s16).toNat)
    case atStart => exact ⟨0, rfl, Nat.zero_le _, H2⟩
    case round =>
      clear H2
      obtain ⟨j, rfl, hj, HJ⟩ := hrel
      by_cases hlt : j < L
      · obtain ⟨g, o2, rfl, t, htk, htn, htl, hcl⟩ := HV.out j hlt
        obtain ⟨s1, X, o', hway, hfw, hmv, hr⟩ := HJ.out
        have hx := hcl _ hr
        have HTK := Lib.hid htk
        have HM := Lib.hid (isMet_any hfw.1 htl)
        have HW := Lib.hid (And.intro hway (And.intro hfw (And.intro hmv (And.intro hr htn))))
        clear htk hcl HJ hway hfw hmv hr htn
        by_cases hmet : s1.num t = 0
        · rw [hmet, show decide ((0 : Nat) ≠ 0) = false from rfl] at HM
          have HI := Lib.hid (IH.out wr o' s1 t HW.out.2.1 HW.out.1.inv htl hmet (by have := HW.out.1.met; have := HS.out.2.2.1; omega))
          have HMET := Lib.hid hmet
          clear hmet
          go_wp2_with fail
          refine HM.out.mono ?_
          rintro e w3 ⟨rfl, rfl⟩
          clear HM
          go_wp2_with fail
          refine HI.out.mono ?_
          rintro e w3 ⟨rfl, s2, X2, hvis, ⟨o3, hf3, hm3, hr3⟩, hb3, hc3⟩
          obtain ⟨⟨c0, c1, c2, c3, c4, c5, c6⟩, _⟩ := hf3.cells
          obtain ⟨d1, d2⟩ := ints_cell hf3.low hv
          obtain ⟨e1, _⟩ := ints_cell hf3.low htl
          have hti : (t : Int) < (n : Int) := by omega
          have HLO : Hid (∀ q, LW W0 k n (fnV F lb) nx v s o1 w2 ((nx v).take (j + 1)) ((w3.setCell ⟨k.bl, v, none⟩ (.int .i64 ((min (s2.low v) (s2.low t) : Nat) : Int))).drewN q)) := Lib.hid (by
            rw [HTK.out]
            obtain ⟨w1', w2', w3', w4', w5'⟩ := HW.out
            exact LW.low (w1'.visit w5' HMET.out hvis) ⟨hf3, hb3, hc3⟩ (w3'.trans hm3 w4'.size) (w4'.trans hr3 (ff_mv w3')) hv)
          clear hvis hf3 hm3 hr3 hb3 hc3 HI HW HMET HTK hx
          obtain ⟨a, ha⟩ : ∃ a, a = s2.low v := ⟨_, rfl⟩
          obtain ⟨b, hbb⟩ : ∃ b, b = s2.low t := ⟨_, rfl⟩
          rw [← ha] at d1 HLO
          rw [← hbb] at e1 HLO
          have hmin : min (a : Int) (b : Int) = ((min a b : Nat) : Int) := by omega
          clear ha hbb c0 c1 c2 c4 c5 c6
          go_wp2_with fail
          go_region
          all_goals (
            go_wp2_with fail
            go_roundw
            case rel => exact ⟨j + 1, by go_num, hlt, Lib.hid (by first | exact HLO.out 1 | (rw [hmin]; exact HLO.out 1))⟩
            case measure => simp [intOf]; omega)
        · rw [decide_eq_true hmet] at HM
          have HMET := Lib.hid hmet
          clear hmet
          have HHAS := Lib.hid (has_fs HW.out.2.1.1 htl)
          obtain ⟨⟨c0, c1, c2, c3, c4, c5, c6⟩, _⟩ := HW.out.2.1.1.cells
          by_cases hop : t ∈ s1.opn
          · rw [decide_eq_true hop] at HHAS
            obtain ⟨d1, d2⟩ := ints_cell HW.out.2.1.1.low hv
            obtain ⟨e1, _⟩ := ints_cell HW.out.2.1.1.num htl
            have hti : (t : Int) < (n : Int) := by omega
            have HLO : Hid (∀ q, LW W0 k n (fnV F lb) nx v s o1 w2 ((nx v).take (j + 1)) ((wr.setCell ⟨k.bl, v, none⟩ (.int .i64 ((min (s1.low v) (s1.num t) : Nat) : Int))).drewN q)) := Lib.hid (by
              rw [HTK.out]
              obtain ⟨w1', w2', w3', w4', w5'⟩ := HW.out
              exact LW.low (w1'.back w5' hop) w2' w3' w4' hv)
            clear hop HW HTK
            obtain ⟨a, ha⟩ : ∃ a, a = s1.low v := ⟨_, rfl⟩
            obtain ⟨b, hbb⟩ : ∃ b, b = s1.num t := ⟨_, rfl⟩
            rw [← ha] at d1 HLO
            rw [← hbb] at e1 HLO
            have hmin : min (a : Int) (b : Int) = ((min a b : Nat) : Int) := by omega
            clear ha hbb c0 c1 c4 c6
            go_wp2_with fail
            refine HM.out.mono ?_
            rintro e w3 ⟨rfl, rfl⟩
            clear HM
            go_wp2_with fail
            refine HHAS.out.mono ?_
            rintro e w3 ⟨rfl, rfl⟩
            clear HHAS
            go_wp2_with fail
            go_region
            all_goals (
              go_wp2_with fail
              go_roundw
              case rel => exact ⟨j + 1, by go_num, hlt, Lib.hid (by first | exact HLO.out 1 | (rw [hmin]; exact HLO.out 1))⟩
              case measure => simp [intOf]; omega)
          · rw [decide_eq_false hop] at HHAS
            have HLO : Hid (LW W0 k n (fnV F lb) nx v s o1 w2 ((nx v).take (j + 1)) wr) := Lib.hid (by
              rw [HTK.out]
              obtain ⟨w1', w2', w3', w4', w5'⟩ := HW.out
              exact ⟨s1, X, o', w1'.past HMET.out hop, w2', w3', w4'⟩)
            clear hop HW HTK c0 c1 c2 c3 c4 c6
            go_wp2_with fail
            refine HM.out.mono ?_
            rintro e w3 ⟨rfl, rfl⟩
            clear HM
            go_wp2_with fail
            refine HHAS.out.mono ?_
            rintro e w3 ⟨rfl, rfl⟩
            clear HHAS
            go_wp2_with fail
            go_roundw
            case rel => exact ⟨j + 1, by go_num, hlt, HLO⟩
            case measure => simp [intOf]; omega
      · have e : j = L := by omega
        subst e
        rw [HL.out] at HJ
        obtain ⟨s1, X, o', hway, hfw, hmv, hr⟩ := HJ.out
        obtain ⟨⟨c0, c1, c2, c3, c4, c5, c6⟩, _⟩ := hfw.1.cells
        obtain ⟨d1, _⟩ := ints_cell hfw.1.low hv
        obtain ⟨e1, _⟩ := ints_cell hfw.1.num hv
        have hstp : Stp W0.heap.size k n (fnV F lb) o W s1 wr := ⟨o', hfw.1, HE.out.1.trans hmv HSZ.out, HE.out.2.trans hr (ff_mv HE.out.1)⟩
        by_cases hcl : s1.low v = s1.num v
        · have HSET : Hid (∀ q, Calls Tryz.prog 47 #[.pointer (some ⟨k.b, 0, none⟩), .int .i64 (v : Nat)] (wr.drewN q) fun e W' => e = .returned (.tuple #[]) ∧ Stp W0.heap.size k n (fnV F lb) o' (wr.drewN q) (shutS s1 s.opn X) W') := Lib.hid fun q =>
            settle_any (hfw.1.below (below_drewN (Below.refl _ _) q)) hway.opn (inv_nodup hway.inv) hv (by obtain ⟨Y, hY, _⟩ := way_last hway; exact ⟨Y, hY⟩)
          have HQ : Hid (∀ q W', Stp W0.heap.size k n (fnV F lb) o' (wr.drewN q) (shutS s1 s.opn X) W' → VisP W0 k n (fnV F lb) nx v o s W (.returned (.tuple #[])) W') := Lib.hid fun q W' h => by
            have h0 : FS W0.heap.size k n (fnV F lb) (wr.drewN q) o' s1 := hfw.1.below (below_drewN (Below.refl _ _) q)
            refine ⟨rfl, _, [], hway.close HS.out.1 hcl, ?_, h.blw h0 (below_drewN hfw.2.1 q), hfw.2.2⟩
            obtain ⟨o3, f3, m3, r3⟩ := h
            have hm2 : Mv o o' W := HE.out.1.trans hmv HSZ.out
            have hr2 : Fr (FF k o) W (wr.drewN q) := (HE.out.2.trans hr (ff_mv HE.out.1)).drewN q
            exact ⟨o3, f3, hm2.trans m3 hr2.size, hr2.trans r3 (ff_mv hm2)⟩
          rw [hcl] at d1
          clear hway hfw hmv hr hcl hstp HJ c0 c1 c4 c5 c6 HV HL
          generalize s1.num v = a at *
          go_wp2_with fail
          go_region
          all_goals (
            go_wp2_with fail
            refine (HSET.out 1).mono ?_
            rintro e w3 ⟨rfl, hst⟩
            have HR := Lib.hid (HQ.out _ _ hst)
            clear hst HSET HQ
            go_wp2_with fail
            go_end0
            exact HR.out)
        · have HRES : Hid (∀ q, VisP W0 k n (fnV F lb) nx v o s W (.returned (.tuple #[])) (wr.drewN q)) := Lib.hid fun q => ⟨rfl, s1, X, hway.open_ hcl, hstp.trans (fun o2 h2 => Stp.below_ h2 (below_drewN (Below.refl _ _) q)), below_drewN hfw.2.1 q, hfw.2.2⟩
          have hne : ((s1.low v : Nat) : Int) ≠ ((s1.num v : Nat) : Int) := by omega
          clear hway hfw hmv hr hcl hstp HJ c0 c1 c4 c5 c6 HV HL
          generalize s1.num v = a at *
          generalize s1.low v = b at *
          have hnb : ((b : Int) == (a : Int)) = false := by rw [beq_eq_false_iff_ne]; exact hne
          go_wp2_with fail
          go_region
          all_goals (
            go_wp2_with fail
            go_end0
            exact HRES.out 1)
end Go.Proofs.YtimgdkafennohaaGreatDoor.Sc
