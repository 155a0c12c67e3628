/-
  Contracts of small functions, several texts laid into one. Not a statement of the seat.
-/
import Derived.Test.YtbgepeokadmemaaOr3
import Derived.Laws.CopyOwn
import Derived.IntWalk
namespace Go.Proofs.Ytbgepeokadmemaa.Or
open Go.ChangeShapes Go.WideShapes Go.ChangeAt Go.RowKit Base Lst Go.Sort
theorem int_sz : (Try.prog.info? 3).map (·.size) = some 1 := by kernel_rfl
theorem map_lay (zs ys : List Int) (off : Nat) : (Om.lay zs off ys).map (Value.int .i64) = splice (zs.map (Value.int .i64)) off (ys.map (Value.int .i64)) := by
  unfold Om.lay splice
  simp
theorem own_lay {B : Nat} {w w' : World} {g n cap off : Nat} {zs ys : List Int} {cur : Array Value} (h : OwnI B w (.slice (some ⟨g, 0, none⟩) n cap) zs) (hg : w.heap[g]? = some (.cells cur 3)) (hfit : off + ys.length ≤ zs.length)
    (h' : w'.heap[g]? = some (.cells (splice cur.toList off (ys.map (Value.int .i64))).toArray 3)) : OwnI B w' (.slice (some ⟨g, 0, none⟩) n cap) (Om.lay zs off ys) := by
  rcases h.2 with ⟨hv, _⟩ | ⟨g', cap', cur', hv, hB, hg', hc, hmx, hsz, htk⟩
  · cases hv
  · injection hv with e1 e2 e3
    injection e1 with e1
    injection e1 with e1
    subst e1 e2 e3
    rw [hg] at hg'
    obtain rfl : cur = cur' := by injection hg' with h; injection h
    have hl := Om.lay_length (l := zs) (ys := ys) hfit
    refine ⟨by simp, .inr ⟨g, cap, _, by rw [hl], hB, h', by omega, hmx, ?_, ?_⟩⟩
    · rw [List.size_toArray, length_splice _ _ _ (by simp; omega)]
      simpa using hsz
    · rw [hl, map_lay, ← htk]
      have hlc : cur.toList.length = cap := by simpa using hsz
      unfold splice
      apply List.ext_getElem?
      intro k
      simp only [List.length_map, List.getElem?_take, List.getElem?_append, List.getElem?_drop, List.length_take, hlc]
      repeat' split
      all_goals first | rfl | omega | (congr 1; omega)
theorem own_set {B : Nat} {w : World} {g n cap i : Nat} {zs : List Int} (h : OwnI B w (.slice (some ⟨g, 0, none⟩) n cap) zs) (_ : i < zs.length) (x : Int) : OwnI B (w.setCell ⟨g, i, none⟩ (.int .i64 x)) (.slice (some ⟨g, 0, none⟩) n cap) (zs.set i x) := by
  rcases h.2 with ⟨hv, _⟩ | ⟨g', cap', cur, hv, hB, hg, hc, hmx, hsz, htk⟩
  · cases hv
  · injection hv with e1 e2 e3
    injection e1 with e1
    injection e1 with e1
    subst e1 e2 e3
    refine ⟨by simp, .inr ⟨g, cap, cur.setIfInBounds i (.int .i64 x), by rw [List.length_set], hB, ?_, by rw [List.length_set]; exact hc, hmx, by simpa using hsz, ?_⟩⟩
    · exact heap_setCell_same w g i cur 3 (.int .i64 x) hg
    · rw [List.length_set, List.map_set, ← htk, Array.toList_setIfInBounds, List.take_set]
theorem own_cell {B : Nat} {w : World} {g n cap i : Nat} {zs : List Int} (h : OwnI B w (.slice (some ⟨g, 0, none⟩) n cap) zs) (hi : i < zs.length) : w.cell? ⟨g, i, none⟩ = some (.int .i64 (zs.getD i 0)) ∧ w.frozen? ⟨g, i, none⟩ = false := by
  have := h.holds i (by simpa using hi)
  rw [Nat.zero_add] at this
  refine ⟨?_, this.2⟩
  rw [this.1, List.getD_eq_getElem?_getD, List.getElem?_eq_getElem hi]
  simp [hi]
/-- A part of a list of the call's own is laid over by another list: one step of a region that draws its order. -/
theorem step_copy_ints {ops : Array Oper} {o : Oper} {a : Act} {w : World} {K : Act → World → Prop} {Q : Exit → Act → World → Prop} {E : Prop} (hgd : o.guard = none) (d s : Operand)
    (ho : o.op = .call { callee := .builtin .copy, args := #[d, s], argTypes := #[29, 29] }) {B b : Nat} {w0 : World} {g n cap : Nat} {zs ys : List Int} (hown : OwnI B w (.slice (some ⟨g, 0, none⟩) n cap) zs) (hb : Below B w0 w) (off : Nat)
    {dp : Option Addr} {m dc : Nat} {u : Value} (hd : a.eval d = .slice dp m dc) (hs : a.eval s = u) (hm : m = ys.length) (hsrc : Ints b w u ys) (hpos : 0 < ys.length → dp = some ⟨g, off, none⟩) (hfit : off + ys.length ≤ zs.length)
    (h : ∀ w', OwnI B w' (.slice (some ⟨g, 0, none⟩) n cap) (Om.lay zs off ys) → Below B w0 w' → K (a.put o.dst (goInt ys.length)) w') :
    if Region.wanted o (yielded ops a.tmps) = true then Oper.wp Try.prog o a w K Q else E := by
  subst hm
  rcases hown.2 with ⟨hv, _⟩ | ⟨g', cap', cur, hv, hB, hg, hc, hmx, hsz, htk⟩
  · cases hv
  · injection hv with e1 e2 e3
    injection e1 with e1
    injection e1 with e1
    subst e1 e2 e3
    obtain ⟨sp, sc, rfl, hl, hcell⟩ := hsrc.open_
    have e0 : ((ys.map (Value.int .i64)).length : Nat) = ys.length := List.length_map ..
    refine step_copy_splice hgd d s 29 29 ho 3 Try.underlying29 int_sz dp sp _ dc _ sc hd hs g off cur.toList 3 hg (ys.map (Value.int .i64)) (by rw [e0]; exact (Nat.min_self _).symm) (fun hp => ?_) (by rw [e0]; simp; omega) (fun v hv => by obtain ⟨x, _, rfl⟩ := List.mem_map.1 hv; rfl) B w0 hb hB (fun w' h1 h2 => ?_)
    · rw [e0] at hp
      refine ⟨hpos hp, ?_⟩
      obtain ⟨q, o', rfl, _, _, _⟩ := hcell 0 hp
      refine ⟨_, rfl, fun j v hj => ?_⟩
      obtain ⟨hk, rfl⟩ := map_at ys j v hj
      obtain ⟨q', o'', he, _, _, hc'⟩ := hcell j hk
      rw [add_plain]
      injection he with he
      injection he with e1 e2
      subst e1 e2
      exact hc'
    · rw [e0]
      exact h w' (own_lay hown hg hfit h1.out) h2
/-- A slice of ints, cut: the value, and what it holds. -/
theorem cut_lh {base : Nat} {W : World} {p : Option Addr} {c : Nat} {xs : List Int} (h : Ints base W (.slice p xs.length c) xs) (lo hi : Nat) (h1 : lo ≤ hi) (h2 : hi ≤ xs.length) (h3 : xs.length ≤ c) :
    ∃ p' c', (∀ w, (Instr.sliceAt 29 (.slice p xs.length c) (some (.int .i64 (lo : Int))) (some (.int .i64 (hi : Int))) none).run Try.prog w = .ok (.slice p' (hi - lo) c') w) ∧ (lo < hi → ∀ g o, p = some ⟨g, o, none⟩ → p' = some ⟨g, o + lo, none⟩) ∧ Ints base W (.slice p' (hi - lo) c') ((xs.drop lo).take (hi - lo)) ∧ ((xs.drop lo).take (hi - lo)).length = hi - lo :=
  ⟨if c = lo then p else p.map (·.add (lo * 1)), c - lo, fun w => by rw [run_sliceAt_slice _ _ _ _ _ _ elemInts, run_slice_lh w _ _ _ _ elemInts _ _ _ _ (by omega) (by omega) (by omega), elemInts', sizeInt]; rfl, fun h g o e => by
    subst e
    rw [if_neg (by omega)]
    simp [Addr.add], h.part lo hi h1 h2 h3, by rw [List.length_take, List.length_drop]; omega⟩
/-- What a call leaves that tells a list and an error. -/
def ListErr (ys : List Int) (x : Int) (w : World) (e : Ending) (w' : World) : Prop := ∃ v, e = .returned (.tuple #[v, .int .i64 x]) ∧ OwnI w.heap.size w' v ys ∧ Below w.heap.size w w'
/-- A list in memory, whose slice is no longer than its room. -/
def Sl (w : World) (v : Value) (xs : List Int) : Prop := Ints 0 w v xs ∧ ∃ p c, v = .slice p xs.length c ∧ xs.length ≤ c
theorem Sl.below {w w' : World} {v : Value} {xs : List Int} (h : Sl w v xs) (hb : Below w.heap.size w w') : Sl w' v xs := ⟨h.1.below hb, h.2⟩
theorem own_drew {B : Nat} {w : World} {v : Value} {zs : List Int} (h : OwnI B w v zs) : OwnI B w.drew v zs := h
theorem below_drew {B : Nat} {w w' : World} (h : Below B w w') : Below B w w'.drew := below_drewN h 1
theorem pair_at {b c j : Nat} {p : Option Addr} {w : World} {xs : List Int} (h : Ints b w (.slice p xs.length c) xs) (hj : j < xs.length) : ∃ g o, p = some ⟨g, o, none⟩ ∧ w.cell? ⟨g, o + j, none⟩ = some (.int .i64 (xs.getD j 0)) := by
  obtain ⟨p', c', hv, _, hc⟩ := h.open_
  injection hv with e1 _ _
  subst e1
  obtain ⟨g, o, rfl, _, _, h1⟩ := hc j hj
  exact ⟨g, o, rfl, h1⟩
end Go.Proofs.Ytbgepeokadmemaa.Or
namespace Go.Proofs.Ytbgepeokadmemaa.Or
open Go.ChangeShapes Go.WideShapes Go.ChangeAt Go.RowKit Base Lst
set_option maxHeartbeats 1000000 in
theorem rindex_any {base : Nat} {v : Value} {xs : List Int} (i : Int) (w : World) (h : Ints base w v xs) : Calls Try.prog 29 #[v, .int .i64 i] w fun e w' => e = .returned (.int .i64 (Om.idx xs i)) ∧ w = w' := by
  obtain ⟨p, c, rfl, hl, hc⟩ := h.open_
  have HC := Lib.hid hc
  have HY : Hid (∀ k, k < xs.length → xs.getD k 0 = i → (∀ j, j < k → xs.getD j 0 ≠ i) → Om.idx xs i = k) := Lib.hid fun k hk e hn => Om.idx_hit k hk e hn
  have HN : Hid ((∀ j, j < xs.length → xs.getD j 0 ≠ i) → Om.idx xs i = -1) := Lib.hid fun h => Om.idx_miss h
  clear hc h
  generalize Om.idx xs i = r at HY HN ⊢
  go_enter Try.func29, Try.ntmps29
  go_wp2_with fail
  go_loopw [9] (fun s9 wr => ∃ k : Nat, s9 = .int .i64 k ∧ k ≤ xs.length ∧ wr = w ∧ Hid (∀ j, j < k → xs.getD j 0 ≠ i)) (fun s9 _ => xs.length - (intOf s9).toNat)
  case atStart => exact ⟨0, rfl, Nat.zero_le _, rfl, Lib.hid fun j hj => absurd hj (by omega)⟩
  case round =>
    obtain ⟨k, rfl, hk, rfl, HK⟩ := hrel
    by_cases hlt : k < xs.length
    · obtain ⟨g', o', rfl, _, _, hcell⟩ := HC.out k hlt
      have HYK := Lib.hid (HY.out k hlt)
      have HKK : Hid (xs.getD k 0 ≠ i → ∀ j, j < k + 1 → xs.getD j 0 ≠ i) := Lib.hid fun h j hj => by
        by_cases e : j = k
        · rw [e]; exact h
        · exact HK.out j (by omega)
      generalize xs.getD k 0 = x at hcell HYK HKK
      by_cases hx : x = i
      · have HR := Lib.hid (HYK.out hx HK.out)
        subst hx
        clear HKK HK HYK
        go_wp2
        go_ret
        exact ⟨ret_int HR.out.symm, rfl⟩
      · have HK2 := Lib.hid (HKK.out hx)
        have hd : (x == i) = false := by rw [beq_eq_false_iff_ne]; exact hx
        clear HKK HK HYK
        go_wp2_with fail
        go_roundw
        case rel => exact ⟨k + 1, by go_num, by omega, trivial, HK2⟩
        case measure => simp [intOf]; omega
    · have HR := Lib.hid (HN.out (fun j hj => HK.out j (by omega)))
      clear HK HY HN
      go_wp2
      go_ret
      exact ⟨ret_int HR.out.symm, rfl⟩
theorem count_snoc (xs : List Int) (k : Nat) (h : k < xs.length) (x : Int) : (xs.take (k + 1)).count x = (xs.take k).count x + (if x = xs.getD k 0 then 1 else 0) := Om.count_take xs k h x
def idB (x : Int) : Bool := decide (1 ≤ x ∧ x ≤ 1048575)
end Go.Proofs.Ytbgepeokadmemaa.Or
namespace Go.Proofs.Ytbgepeokadmemaa.Or
open Go.ChangeShapes Go.WideShapes Go.ChangeAt Go.RowKit Base Lst
/-- A list in memory; its slice is no longer than its room, and has none if it is nil. -/
def SL (w : World) (v : Value) (xs : List Int) : Prop := Sl w v xs ∧ Cap0 v
theorem SL.below {w w' : World} {v : Value} {xs : List Int} (h : SL w v xs) (hb : Below w.heap.size w w') : SL w' v xs := ⟨h.1.below hb, h.2⟩
theorem SL.nil {w : World} : SL w (.slice none 0 0) [] := ⟨⟨.nil, _, _, rfl, Nat.le_refl _⟩, fun n c e => by injection e with _ _ e; exact e.symm⟩
theorem own_sl {B : Nat} {w : World} {v : Value} {zs : List Int} (h : OwnI B w v zs) (hl : zs.length ≤ 1000000) : SL w v zs := by
  refine ⟨⟨h.ints (by omega), ?_⟩, h.cap0⟩
  rcases h.form with ⟨rfl, hv⟩ | ⟨g, cap, hv, _, _, hc⟩
  · exact ⟨_, _, hv, Nat.le_refl _⟩
  · exact ⟨_, _, hv, hc⟩
theorem cap0_cut {p : Option Addr} {n c lo hi : Nat} (h : Cap0 (.slice p n c)) : Cap0 (sliced p lo hi c 1) := fun n' c' e => by
  unfold sliced at e
  injection e with e1 e2 e3
  cases p with
  | none =>
    have := h _ _ rfl
    omega
  | some a => split at e1 <;> simp at e1
theorem SL.h {w : World} {v : Value} {xs : List Int} (h : SL w v xs) (k : Nat) (hk : k ≤ xs.length) : ∃ u, (∀ w, (Instr.sliceAt 29 v none (some (.int .i64 (k : Int))) none).run Try.prog w = .ok u w) ∧ SL w u (xs.take k) := by
  obtain ⟨⟨hi, p, c, rfl, hc⟩, h0⟩ := h
  refine ⟨sliced p 0 k c 1, fun w => by rw [run_sliceAt_slice _ _ _ _ _ _ elemInts, run_slice_h w _ _ _ _ elemInts _ _ (by omega) (by omega), elemInts', sizeInt]; rfl, ⟨by simpa using hi.part 0 k (Nat.zero_le _) hk hc, ?_⟩, cap0_cut h0⟩
  exact ⟨_, _, by unfold sliced; rw [List.length_take, Nat.min_eq_left hk]; rfl, by rw [List.length_take]; omega⟩
theorem SL.l {w : World} {v : Value} {xs : List Int} (h : SL w v xs) (lo : Nat) (hk : lo ≤ xs.length) : ∃ u, (∀ w, (Instr.sliceAt 29 v (some (.int .i64 (lo : Int))) none none).run Try.prog w = .ok u w) ∧ SL w u (xs.drop lo) := by
  obtain ⟨⟨hi, p, c, rfl, hc⟩, h0⟩ := h
  refine ⟨sliced p lo xs.length c 1, fun w => by rw [run_sliceAt_slice _ _ _ _ _ _ elemInts, run_slice_l w _ _ _ _ elemInts _ _ (by omega) (by omega), elemInts', sizeInt]; rfl, ⟨?_, ?_⟩, cap0_cut h0⟩
  · have := hi.part lo xs.length hk (Nat.le_refl _) hc
    rw [List.take_of_length_le (by rw [List.length_drop]; omega)] at this
    exact this
  · exact ⟨_, _, by unfold sliced; rw [List.length_drop], by rw [List.length_drop]; omega⟩
section
variable {H : Type} {enc : TypeId × Value → H} {w : World}
set_option maxRecDepth 100000 in
theorem open_sl {r : Reach} {b0 : Nat} {v : Value} {d : DataW H} {p : List MemPlace} (hv : Value.okWide Try.prog w r b0 29 v) (h : DataW.Trod enc Try.prog w 0 (fun _ => true) true 29 v d p) : ∃ zs, SL w v zs ∧ Bd zs := by
  have h2 := h
  obtain ⟨zs, h3, h4, h5⟩ := open_list hv h
  refine ⟨zs, ⟨⟨h4, h3⟩, ?_⟩, h5⟩
  obtain ⟨a0, len, cap, rfl⟩ := okWide_slice Try.underlying29 hv
  obtain ⟨fuel, hf⟩ := h2
  rcases open_ints Try.underlying29 Try.underlying3 cellsInt hf with ⟨hcs, _⟩ | ⟨a, len', cap', zs', hcs, _⟩
  · simp [Value.cells] at hcs
    obtain ⟨rfl, rfl, rfl⟩ := hcs
    exact fun n c e => by injection e with _ _ e; exact e.symm
  · simp [Value.cells] at hcs
    obtain ⟨rfl, rfl, rfl⟩ := hcs
    exact fun n c e => by cases e
end
/-- Lists of the call's own on their way. -/
def Way (w wr : World) (v : Value) (zs : List Int) : Prop := OwnI w.heap.size wr v zs ∧ Below w.heap.size w wr
theorem Way.empty {w : World} : Way w (w.alloc (.cells #[] 3)) (.slice (some ⟨w.heap.size, 0, none⟩) 0 0) [] := ⟨ownI_empty (Nat.le_refl _) (heap_alloc_at _ _ _ rfl), (Below.refl _ _).alloc (Nat.le_refl _) _⟩
theorem Way.nil {w : World} : Way w w (.slice none 0 0) [] := ⟨OwnI.nil _ _, Below.refl _ _⟩
theorem Way.lay {w wr : World} {v : Value} {zs : List Int} (h : Way w wr v zs) (o : Obj) : Way w (wr.alloc o) v zs := ⟨h.1.lay rfl o, h.2.alloc h.2.size o⟩
theorem Way.onto {w wr w' : World} {v v' : Value} {zs zs' : List Int} (h : Way w wr v zs) (ho : OwnI w.heap.size w' v' zs') (hg : wr.grownBy w' v.ownBlock) : Way w w' v' zs' := ⟨ho, h.2.grown hg h.2.size (own_base h.1)⟩
theorem rthere_any {v : Value} {xs : List Int} (i : Int) (w : World) (h : SL w v xs) : Calls Try.prog 22 #[v, .int .i64 i] w fun e w' => e = .returned (.bool (decide (0 ≤ i ∧ i < xs.length))) ∧ w = w' := by
  obtain ⟨⟨_, p, c, rfl, _⟩, _⟩ := h
  by_cases h1 : 0 ≤ i
  · by_cases h2 : i < (xs.length : Int)
    · rw [decide_eq_true ⟨h1, h2⟩]
      go_enter Try.func22, Try.ntmps22
      go_wp2
      go_ret
      exact ⟨ret_bool (by simp), rfl⟩
    · rw [decide_eq_false (fun h => h2 h.2)]
      go_enter Try.func22, Try.ntmps22
      go_wp2
      go_ret
      exact ⟨ret_bool (by simp), rfl⟩
  · rw [decide_eq_false (fun h => h1 h.1)]
    go_enter Try.func22, Try.ntmps22
    go_wp2
    go_ret
    exact ⟨rfl, rfl⟩
set_option maxHeartbeats 1000000 in
theorem rdel_any {v : Value} {xs : List Int} (i : Nat) (w : World) (h : SL w v xs) (hi : i < xs.length) (hl : xs.length ≤ 100000) : Calls Try.prog 26 #[v, .int .i64 i] w (OwnNew (xs.take i ++ xs.drop (i + 1)) w) := by
  obtain ⟨u1, hr1, h1⟩ := h.h i (by omega)
  obtain ⟨u2, hr2, h2⟩ := h.l (i + 1) (by omega)
  have e1 : ((i + 1 : Nat) : Int) = (i : Int) + 1 := by omega
  rw [e1] at hr2
  have hl1 : (xs.take i).length ≤ 100000 := by rw [List.length_take]; omega
  have hl2 : (xs.drop (i + 1)).length ≤ 100000 := by rw [List.length_drop]; omega
  have HU1 := Lib.hid h1
  have HU2 := Lib.hid h2
  have HE : Hid (∀ v1 w', Way w w' v1 (xs.take i ++ xs.drop (i + 1)) → OwnNew (xs.take i ++ xs.drop (i + 1)) w (.returned v1) w') := Lib.hid fun v1 w' h1 => ⟨v1, rfl, h1.1, h1.2⟩
  obtain ⟨⟨_, p, c, rfl, hc⟩, _⟩ := h
  clear h1 h2 e1
  generalize xs.take i = a at HU1 HE hl1 ⊢
  generalize xs.drop (i + 1) = b at HU2 HE hl2 ⊢
  generalize OwnNew (a ++ b) w = Post at HE ⊢
  go_enter Try.func26, Try.ntmps26
  go_wp2_with (first
    | (at_builtin; refine append_ints rfl (.tmp 6) (.tmp 9) rfl (Way.empty (w := w)).2.size (Way.empty (w := w)).1 rfl (HU1.out.below (Way.empty (w := w)).2).1.1 HU1.out.2 rfl (by simp; omega) ?_; intro v1 w1 h1 h2 _; have H1 : Hid (Way w w1 v1 a) := Lib.hid (Way.onto Way.empty h1 h2); clear h1 h2)
    | (at_builtin; refine append_ints rfl (.tmp 11) (.tmp 15) rfl H1.out.2.size H1.out.1 rfl (HU2.out.below H1.out.2).1.1 HU2.out.2 rfl (by omega) ?_; intro v2 w2 h1 h2 _; have H2 := Lib.hid (Way.onto H1.out h1 h2); clear h1 h2))
  exact HE.out _ _ H2.out
set_option maxHeartbeats 1000000 in
theorem rinsert_any {v : Value} {xs : List Int} (i : Nat) (x : Int) (w : World) (h : SL w v xs) (hi : i ≤ xs.length) (hl : xs.length ≤ 100000) : Calls Try.prog 23 #[v, .int .i64 i, .int .i64 x] w fun e w' => ∃ v', e = .returned (.tuple #[v', .bool true]) ∧ Way w w' v' (xs.take i ++ x :: xs.drop i) := by
  obtain ⟨u1, hr1, h1⟩ := h.h i hi
  obtain ⟨u2, hr2, h2⟩ := h.l i hi
  have hl1 : (xs.take i).length ≤ 100000 := by rw [List.length_take]; omega
  have hl2 : (xs.drop i).length ≤ 100000 := by rw [List.length_drop]; omega
  have HU1 := Lib.hid h1
  have HU2 := Lib.hid h2
  have HE : Hid (∀ v1 w', Way w w' v1 (xs.take i ++ [x] ++ xs.drop i) → (fun e w' => ∃ v', e = Ending.returned (.tuple #[v', .bool true]) ∧ Way w w' v' (xs.take i ++ x :: xs.drop i)) (.returned (.tuple #[v1, .bool true])) w') := Lib.hid fun v1 w' h1 => ⟨v1, rfl, by rw [List.append_assoc] at h1; exact h1⟩
  obtain ⟨⟨_, p, c, rfl, hc⟩, _⟩ := h
  have hgt : decide (xs.length < i) = false := by rw [decide_eq_false]; omega
  have hgt' : decide ((xs.length : Int) < (i : Int)) = false := by rw [decide_eq_false]; omega
  clear h1 h2
  generalize (fun e w' => ∃ v', e = Ending.returned (.tuple #[v', .bool true]) ∧ Way w w' v' (xs.take i ++ x :: xs.drop i)) = Post at HE ⊢
  generalize xs.take i = a at HU1 HE hl1
  generalize xs.drop i = b at HU2 HE hl2
  go_enter Try.func23, Try.ntmps23
  go_wp2_with (first
    | (at_builtin; refine append_ints rfl (.tmp 18) (.tmp 21) rfl (Way.empty (w := w)).2.size (Way.empty (w := w)).1 rfl (HU1.out.below (Way.empty (w := w)).2).1.1 HU1.out.2 rfl (by simp; omega) ?_; intro v1 w1 h1 h2 _; have H1 : Hid (Way w w1 v1 a) := Lib.hid (Way.onto Way.empty h1 h2); clear h1 h2)
    | (at_builtin; refine append_int rfl (.tmp 23) (.tmp 25) rfl H1.out.2 H1.out.1 rfl rfl (by omega) ?_; intro v2 w2 h1 h2; have H2 : Hid (Way w w2 v2 (a ++ [x])) := Lib.hid ⟨h1, h2⟩; clear h1 h2)
    | (at_builtin; refine append_ints rfl (.tmp 27) (.tmp 30) rfl H2.out.2.size H2.out.1 rfl (HU2.out.below H2.out.2).1.1 HU2.out.2 rfl (by simp; omega) ?_; intro v3 w3 h1 h2 _; have H3 := Lib.hid (Way.onto H2.out h1 h2); clear h1 h2))
  exact HE.out _ _ H3.out
end Go.Proofs.Ytbgepeokadmemaa.Or
