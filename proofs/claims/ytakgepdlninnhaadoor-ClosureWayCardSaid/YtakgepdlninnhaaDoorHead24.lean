/-
  Contracts of small functions, several texts laid into one. Not a statement of the seat.
-/
import Derived.Test.YtakgepdlninnhaaDoorOr3
import Derived.Laws.CopyOwn
import Derived.IntWalk
namespace Go.Proofs.YtakgepdlninnhaaDoor.Or
open Go.ChangeShapes Go.WideShapes Go.ChangeAt Go.RowKit Base Lst Go.Sort
theorem int_sz : (Tryd.prog.info? 3).map (·.size) = some 1 := by kernel_rfl
theorem map_lay (zs ys : List Int) (off : Nat) : (Om.lay zs off ys).map (Value.int .i64) = splice (zs.map (Value.int .i64)) off (ys.map (Value.int .i64)) := by
  unfold Om.lay splice
  simp
theorem own_lay {B : Nat} {w w' : World} {g n cap off : Nat} {zs ys : List Int} {cur : Array Value} (h : OwnI B w (.slice (some ⟨g, 0, none⟩) n cap) zs) (hg : w.heap[g]? = some (.cells cur 3)) (hfit : off + ys.length ≤ zs.length)
    (h' : w'.heap[g]? = some (.cells (splice cur.toList off (ys.map (Value.int .i64))).toArray 3)) : OwnI B w' (.slice (some ⟨g, 0, none⟩) n cap) (Om.lay zs off ys) := by
  rcases h.2 with ⟨hv, _⟩ | ⟨g', cap', cur', hv, hB, hg', hc, hmx, hsz, htk⟩
  · cases hv
  · injection hv with e1 e2 e3
    injection e1 with e1
    injection e1 with e1
    subst e1 e2 e3
    rw [hg] at hg'
    obtain rfl : cur = cur' := by injection hg' with h; injection h
    have hl := Om.lay_length (l := zs) (ys := ys) hfit
    refine ⟨by simp, .inr ⟨g, cap, _, by rw [hl], hB, h', by omega, hmx, ?_, ?_⟩⟩
    · rw [List.size_toArray, length_splice _ _ _ (by simp; omega)]
      simpa using hsz
    · rw [hl, map_lay, ← htk]
      have hlc : cur.toList.length = cap := by simpa using hsz
      unfold splice
      apply List.ext_getElem?
      intro k
      simp only [List.length_map, List.getElem?_take, List.getElem?_append, List.getElem?_drop, List.length_take, hlc]
      repeat' split
      all_goals first | rfl | omega | (congr 1; omega)
theorem own_set {B : Nat} {w : World} {g n cap i : Nat} {zs : List Int} (h : OwnI B w (.slice (some ⟨g, 0, none⟩) n cap) zs) (_ : i < zs.length) (x : Int) : OwnI B (w.setCell ⟨g, i, none⟩ (.int .i64 x)) (.slice (some ⟨g, 0, none⟩) n cap) (zs.set i x) := by
  rcases h.2 with ⟨hv, _⟩ | ⟨g', cap', cur, hv, hB, hg, hc, hmx, hsz, htk⟩
  · cases hv
  · injection hv with e1 e2 e3
    injection e1 with e1
    injection e1 with e1
    subst e1 e2 e3
    refine ⟨by simp, .inr ⟨g, cap, cur.setIfInBounds i (.int .i64 x), by rw [List.length_set], hB, ?_, by rw [List.length_set]; exact hc, hmx, by simpa using hsz, ?_⟩⟩
    · exact heap_setCell_same w g i cur 3 (.int .i64 x) hg
    · rw [List.length_set, List.map_set, ← htk, Array.toList_setIfInBounds, List.take_set]
theorem own_cell {B : Nat} {w : World} {g n cap i : Nat} {zs : List Int} (h : OwnI B w (.slice (some ⟨g, 0, none⟩) n cap) zs) (hi : i < zs.length) : w.cell? ⟨g, i, none⟩ = some (.int .i64 (zs.getD i 0)) ∧ w.frozen? ⟨g, i, none⟩ = false := by
  have := h.holds i (by simpa using hi)
  rw [Nat.zero_add] at this
  refine ⟨?_, this.2⟩
  rw [this.1, List.getD_eq_getElem?_getD, List.getElem?_eq_getElem hi]
  simp [hi]
/-- A part of a list of the call's own is laid over by another list: one step of a region that draws its order. -/
theorem step_copy_ints {ops : Array Oper} {o : Oper} {a : Act} {w : World} {K : Act → World → Prop} {Q : Exit → Act → World → Prop} {E : Prop} (hgd : o.guard = none) (d s : Operand)
    (ho : o.op = .call { callee := .builtin .copy, args := #[d, s], argTypes := #[30, 30] }) {B b : Nat} {w0 : World} {g n cap : Nat} {zs ys : List Int} (hown : OwnI B w (.slice (some ⟨g, 0, none⟩) n cap) zs) (hb : Below B w0 w) (off : Nat)
    {dp : Option Addr} {m dc : Nat} {u : Value} (hd : a.eval d = .slice dp m dc) (hs : a.eval s = u) (hm : m = ys.length) (hsrc : Ints b w u ys) (hpos : 0 < ys.length → dp = some ⟨g, off, none⟩) (hfit : off + ys.length ≤ zs.length)
    (h : ∀ w', OwnI B w' (.slice (some ⟨g, 0, none⟩) n cap) (Om.lay zs off ys) → Below B w0 w' → K (a.put o.dst (goInt ys.length)) w') :
    if Region.wanted o (yielded ops a.tmps) = true then Oper.wp Tryd.prog o a w K Q else E := by
  subst hm
  rcases hown.2 with ⟨hv, _⟩ | ⟨g', cap', cur, hv, hB, hg, hc, hmx, hsz, htk⟩
  · cases hv
  · injection hv with e1 e2 e3
    injection e1 with e1
    injection e1 with e1
    subst e1 e2 e3
    obtain ⟨sp, sc, rfl, hl, hcell⟩ := hsrc.open_
    have e0 : ((ys.map (Value.int .i64)).length : Nat) = ys.length := List.length_map ..
    refine step_copy_splice hgd d s 30 30 ho 3 Tryd.underlying30 int_sz dp sp _ dc _ sc hd hs g off cur.toList 3 hg (ys.map (Value.int .i64)) (by rw [e0]; exact (Nat.min_self _).symm) (fun hp => ?_) (by rw [e0]; simp; omega) (fun v hv => by obtain ⟨x, _, rfl⟩ := List.mem_map.1 hv; rfl) B w0 hb hB (fun w' h1 h2 => ?_)
    · rw [e0] at hp
      refine ⟨hpos hp, ?_⟩
      obtain ⟨q, o', rfl, _, _, _⟩ := hcell 0 hp
      refine ⟨_, rfl, fun j v hj => ?_⟩
      obtain ⟨hk, rfl⟩ := map_at ys j v hj
      obtain ⟨q', o'', he, _, _, hc'⟩ := hcell j hk
      rw [add_plain]
      injection he with he
      injection he with e1 e2
      subst e1 e2
      exact hc'
    · rw [e0]
      exact h w' (own_lay hown hg hfit h1.out) h2
/-- A slice of ints, cut: the value, and what it holds. -/
theorem cut_lh {base : Nat} {W : World} {p : Option Addr} {c : Nat} {xs : List Int} (h : Ints base W (.slice p xs.length c) xs) (lo hi : Nat) (h1 : lo ≤ hi) (h2 : hi ≤ xs.length) (h3 : xs.length ≤ c) :
    ∃ p' c', (∀ w, (Instr.sliceAt 30 (.slice p xs.length c) (some (.int .i64 (lo : Int))) (some (.int .i64 (hi : Int))) none).run Tryd.prog w = .ok (.slice p' (hi - lo) c') w) ∧ (lo < hi → ∀ g o, p = some ⟨g, o, none⟩ → p' = some ⟨g, o + lo, none⟩) ∧ Ints base W (.slice p' (hi - lo) c') ((xs.drop lo).take (hi - lo)) ∧ ((xs.drop lo).take (hi - lo)).length = hi - lo :=
  ⟨if c = lo then p else p.map (·.add (lo * 1)), c - lo, fun w => by rw [run_sliceAt_slice _ _ _ _ _ _ elemInts, run_slice_lh w _ _ _ _ elemInts _ _ _ _ (by omega) (by omega) (by omega), elemInts', sizeInt]; rfl, fun h g o e => by
    subst e
    rw [if_neg (by omega)]
    simp [Addr.add], h.part lo hi h1 h2 h3, by rw [List.length_take, List.length_drop]; omega⟩
/-- What a call leaves that tells a list and an error. -/
def ListErr (ys : List Int) (x : Int) (w : World) (e : Ending) (w' : World) : Prop := ∃ v, e = .returned (.tuple #[v, .int .i64 x]) ∧ OwnI w.heap.size w' v ys ∧ Below w.heap.size w w'
/-- A list in memory, whose slice is no longer than its room. -/
def Sl (w : World) (v : Value) (xs : List Int) : Prop := Ints 0 w v xs ∧ ∃ p c, v = .slice p xs.length c ∧ xs.length ≤ c
theorem Sl.below {w w' : World} {v : Value} {xs : List Int} (h : Sl w v xs) (hb : Below w.heap.size w w') : Sl w' v xs := ⟨h.1.below hb, h.2⟩
theorem own_drew {B : Nat} {w : World} {v : Value} {zs : List Int} (h : OwnI B w v zs) : OwnI B w.drew v zs := h
theorem below_drew {B : Nat} {w w' : World} (h : Below B w w') : Below B w w'.drew := below_drewN h 1
theorem pair_at {b c j : Nat} {p : Option Addr} {w : World} {xs : List Int} (h : Ints b w (.slice p xs.length c) xs) (hj : j < xs.length) : ∃ g o, p = some ⟨g, o, none⟩ ∧ w.cell? ⟨g, o + j, none⟩ = some (.int .i64 (xs.getD j 0)) := by
  obtain ⟨p', c', hv, _, hc⟩ := h.open_
  injection hv with e1 _ _
  subst e1
  obtain ⟨g, o, rfl, _, _, h1⟩ := hc j hj
  exact ⟨g, o, rfl, h1⟩
end Go.Proofs.YtakgepdlninnhaaDoor.Or
namespace Go.Proofs.YtakgepdlninnhaaDoor.Or
open Go.ChangeShapes Go.WideShapes Go.ChangeAt Go.RowKit Base Lst
set_option maxHeartbeats 1000000 in
theorem in_any {base : Nat} {v : Value} {xs : List Int} (i : Int) (w : World) (h : Lst.Ints base w v xs) : Calls Tryd.prog 20 #[v, .int .i64 i] w fun e w' => e = .returned (.bool (decide (i ∈ xs))) ∧ w = w' := by
  obtain ⟨p, c, rfl, hl, hc⟩ := h.open_
  have HC := Lib.hid hc
  have HY : Hid (∀ k, k < xs.length → xs.getD k 0 = i → decide (i ∈ xs) = true) := Lib.hid fun k hk e => by
    rw [decide_eq_true_iff, ← e]
    simp [hk]
  have HN : Hid ((∀ j, j < xs.length → xs.getD j 0 ≠ i) → decide (i ∈ xs) = false) := Lib.hid fun h => by
    rw [decide_eq_false_iff_not]
    intro hm
    obtain ⟨j, hj, e⟩ := List.mem_iff_getElem.1 hm
    exact h j hj (by simpa [hj] using e)
  clear hc h
  generalize decide (i ∈ xs) = r at HY HN ⊢
  go_enter Tryd.func20, Tryd.ntmps20
  go_wp2_with fail
  go_loopw [9] (fun s9 wr => ∃ k : Nat, s9 = .int .i64 k ∧ k ≤ xs.length ∧ wr = w ∧ Hid (∀ j, j < k → xs.getD j 0 ≠ i)) (fun s9 _ => xs.length - (intOf s9).toNat)
  case atStart => exact ⟨0, rfl, Nat.zero_le _, rfl, Lib.hid fun j hj => absurd hj (by omega)⟩
  case round =>
    obtain ⟨k, rfl, hk, rfl, HK⟩ := hrel
    by_cases hlt : k < xs.length
    · obtain ⟨g', o', rfl, _, _, hcell⟩ := HC.out k hlt
      have HYK := Lib.hid (HY.out k hlt)
      have HKK : Hid (xs.getD k 0 ≠ i → ∀ j, j < k + 1 → xs.getD j 0 ≠ i) := Lib.hid fun h j hj => by
        by_cases e : j = k
        · rw [e]; exact h
        · exact HK.out j (by omega)
      generalize xs.getD k 0 = x at hcell HYK HKK
      by_cases hx : x = i
      · have hr := HYK.out hx
        subst hx
        have HR := Lib.hid hr
        clear HKK HK HYK hr
        go_wp2
        go_ret
        exact ⟨ret_bool HR.out.symm, rfl⟩
      · have HK2 := Lib.hid (HKK.out hx)
        have hd : (x == i) = false := by rw [beq_eq_false_iff_ne]; exact hx
        clear HKK HK HYK
        go_wp2_with fail
        go_roundw
        case rel => exact ⟨k + 1, by go_num, by omega, trivial, HK2⟩
        case measure => simp [intOf]; omega
    · have hr := HN.out (fun j hj => HK.out j (by omega))
      have HR := Lib.hid hr
      clear HK HY HN hr
      go_wp2
      go_ret
      exact ⟨ret_bool HR.out.symm, rfl⟩
theorem count_snoc (xs : List Int) (k : Nat) (h : k < xs.length) (x : Int) : (xs.take (k + 1)).count x = (xs.take k).count x + (if x = xs.getD k 0 then 1 else 0) := Om.count_take xs k h x
def idB (x : Int) : Bool := decide (1 ≤ x ∧ x ≤ 1048575)
end Go.Proofs.YtakgepdlninnhaaDoor.Or
