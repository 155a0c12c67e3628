/-
  Contracts of small functions, several texts laid into one. Not a statement of the seat.
-/
import Derived.Test.YtcmafmdcgkpagaaGreatOr3
import Derived.Laws.CopyOwn
import Derived.IntWalk
namespace Go.Proofs.YtcmafmdcgkpagaaGreat.Or
open Go.ChangeShapes Go.WideShapes Go.ChangeAt Go.RowKit Base Lst Go.Sort
theorem int_sz : (Tryz.prog.info? 3).map (·.size) = some 1 := by kernel_rfl
theorem map_lay (zs ys : List Int) (off : Nat) : (Om.lay zs off ys).map (Value.int .i64) = splice (zs.map (Value.int .i64)) off (ys.map (Value.int .i64)) := by
  unfold Om.lay splice
  simp
theorem own_lay {B : Nat} {w w' : World} {g n cap off : Nat} {zs ys : List Int} {cur : Array Value} (h : OwnI B w (.slice (some ⟨g, 0, none⟩) n cap) zs) (hg : w.heap[g]? = some (.cells cur 3)) (hfit : off + ys.length ≤ zs.length)
    (h' : w'.heap[g]? = some (.cells (splice cur.toList off (ys.map (Value.int .i64))).toArray 3)) : OwnI B w' (.slice (some ⟨g, 0, none⟩) n cap) (Om.lay zs off ys) := by
  rcases h.2 with ⟨hv, _⟩ | ⟨g', cap', cur', hv, hB, hg', hc, hmx, hsz, htk⟩
  · cases hv
  · injection hv with e1 e2 e3
    injection e1 with e1
    injection e1 with e1
    subst e1 e2 e3
    rw [hg] at hg'
    obtain rfl : cur = cur' := by injection hg' with h; injection h
    have hl := Om.lay_length (l := zs) (ys := ys) hfit
    refine ⟨by simp, .inr ⟨g, cap, _, by rw [hl], hB, h', by omega, hmx, ?_, ?_⟩⟩
    · rw [List.size_toArray, length_splice _ _ _ (by simp; omega)]
      simpa using hsz
    · rw [hl, map_lay, ← htk]
      have hlc : cur.toList.length = cap := by simpa using hsz
      unfold splice
      apply List.ext_getElem?
      intro k
      simp only [List.length_map, List.getElem?_take, List.getElem?_append, List.getElem?_drop, List.length_take, hlc]
      repeat' split
      all_goals first | rfl | omega | (congr 1; omega)
theorem own_set {B : Nat} {w : World} {g n cap i : Nat} {zs : List Int} (h : OwnI B w (.slice (some ⟨g, 0, none⟩) n cap) zs) (_ : i < zs.length) (x : Int) : OwnI B (w.setCell ⟨g, i, none⟩ (.int .i64 x)) (.slice (some ⟨g, 0, none⟩) n cap) (zs.set i x) := by
  rcases h.2 with ⟨hv, _⟩ | ⟨g', cap', cur, hv, hB, hg, hc, hmx, hsz, htk⟩
  · cases hv
  · injection hv with e1 e2 e3
    injection e1 with e1
    injection e1 with e1
    subst e1 e2 e3
    refine ⟨by simp, .inr ⟨g, cap, cur.setIfInBounds i (.int .i64 x), by rw [List.length_set], hB, ?_, by rw [List.length_set]; exact hc, hmx, by simpa using hsz, ?_⟩⟩
    · exact heap_setCell_same w g i cur 3 (.int .i64 x) hg
    · rw [List.length_set, List.map_set, ← htk, Array.toList_setIfInBounds, List.take_set]
theorem own_cell {B : Nat} {w : World} {g n cap i : Nat} {zs : List Int} (h : OwnI B w (.slice (some ⟨g, 0, none⟩) n cap) zs) (hi : i < zs.length) : w.cell? ⟨g, i, none⟩ = some (.int .i64 (zs.getD i 0)) ∧ w.frozen? ⟨g, i, none⟩ = false := by
  have := h.holds i (by simpa using hi)
  rw [Nat.zero_add] at this
  refine ⟨?_, this.2⟩
  rw [this.1, List.getD_eq_getElem?_getD, List.getElem?_eq_getElem hi]
  simp [hi]
/-- A part of a list of the call's own is laid over by another list: one step of a region that draws its order. -/
theorem step_copy_ints {ops : Array Oper} {o : Oper} {a : Act} {w : World} {K : Act → World → Prop} {Q : Exit → Act → World → Prop} {E : Prop} (hgd : o.guard = none) (d s : Operand)
    (ho : o.op = .call { callee := .builtin .copy, args := #[d, s], argTypes := #[43, 43] }) {B b : Nat} {w0 : World} {g n cap : Nat} {zs ys : List Int} (hown : OwnI B w (.slice (some ⟨g, 0, none⟩) n cap) zs) (hb : Below B w0 w) (off : Nat)
    {dp : Option Addr} {m dc : Nat} {u : Value} (hd : a.eval d = .slice dp m dc) (hs : a.eval s = u) (hm : m = ys.length) (hsrc : Ints b w u ys) (hpos : 0 < ys.length → dp = some ⟨g, off, none⟩) (hfit : off + ys.length ≤ zs.length)
    (h : ∀ w', OwnI B w' (.slice (some ⟨g, 0, none⟩) n cap) (Om.lay zs off ys) → Below B w0 w' → K (a.put o.dst (goInt ys.length)) w') :
    if Region.wanted o (yielded ops a.tmps) = true then Oper.wp Tryz.prog o a w K Q else E := by
  subst hm
  rcases hown.2 with ⟨hv, _⟩ | ⟨g', cap', cur, hv, hB, hg, hc, hmx, hsz, htk⟩
  · cases hv
  · injection hv with e1 e2 e3
    injection e1 with e1
    injection e1 with e1
    subst e1 e2 e3
    obtain ⟨sp, sc, rfl, hl, hcell⟩ := hsrc.open_
    have e0 : ((ys.map (Value.int .i64)).length : Nat) = ys.length := List.length_map ..
    refine step_copy_splice hgd d s 43 43 ho 3 Tryz.underlying43 int_sz dp sp _ dc _ sc hd hs g off cur.toList 3 hg (ys.map (Value.int .i64)) (by rw [e0]; exact (Nat.min_self _).symm) (fun hp => ?_) (by rw [e0]; simp; omega) (fun v hv => by obtain ⟨x, _, rfl⟩ := List.mem_map.1 hv; rfl) B w0 hb hB (fun w' h1 h2 => ?_)
    · rw [e0] at hp
      refine ⟨hpos hp, ?_⟩
      obtain ⟨q, o', rfl, _, _, _⟩ := hcell 0 hp
      refine ⟨_, rfl, fun j v hj => ?_⟩
      obtain ⟨hk, rfl⟩ := map_at ys j v hj
      obtain ⟨q', o'', he, _, _, hc'⟩ := hcell j hk
      rw [add_plain]
      injection he with he
      injection he with e1 e2
      subst e1 e2
      exact hc'
    · rw [e0]
      exact h w' (own_lay hown hg hfit h1.out) h2
/-- A slice of ints, cut: the value, and what it holds. -/
theorem cut_lh {base : Nat} {W : World} {p : Option Addr} {c : Nat} {xs : List Int} (h : Ints base W (.slice p xs.length c) xs) (lo hi : Nat) (h1 : lo ≤ hi) (h2 : hi ≤ xs.length) (h3 : xs.length ≤ c) :
    ∃ p' c', (∀ w, (Instr.sliceAt 43 (.slice p xs.length c) (some (.int .i64 (lo : Int))) (some (.int .i64 (hi : Int))) none).run Tryz.prog w = .ok (.slice p' (hi - lo) c') w) ∧ (lo < hi → ∀ g o, p = some ⟨g, o, none⟩ → p' = some ⟨g, o + lo, none⟩) ∧ Ints base W (.slice p' (hi - lo) c') ((xs.drop lo).take (hi - lo)) ∧ ((xs.drop lo).take (hi - lo)).length = hi - lo :=
  ⟨if c = lo then p else p.map (·.add (lo * 1)), c - lo, fun w => by rw [run_sliceAt_slice _ _ _ _ _ _ elemInts, run_slice_lh w _ _ _ _ elemInts _ _ _ _ (by omega) (by omega) (by omega), elemInts', sizeInt]; rfl, fun h g o e => by
    subst e
    rw [if_neg (by omega)]
    simp [Addr.add], h.part lo hi h1 h2 h3, by rw [List.length_take, List.length_drop]; omega⟩
/-- What a call leaves that tells a list and an error. -/
def ListErr (ys : List Int) (x : Int) (w : World) (e : Ending) (w' : World) : Prop := ∃ v, e = .returned (.tuple #[v, .int .i64 x]) ∧ OwnI w.heap.size w' v ys ∧ Below w.heap.size w w'
/-- A list in memory, whose slice is no longer than its room. -/
def Sl (w : World) (v : Value) (xs : List Int) : Prop := Ints 0 w v xs ∧ ∃ p c, v = .slice p xs.length c ∧ xs.length ≤ c
theorem Sl.below {w w' : World} {v : Value} {xs : List Int} (h : Sl w v xs) (hb : Below w.heap.size w w') : Sl w' v xs := ⟨h.1.below hb, h.2⟩
theorem own_drew {B : Nat} {w : World} {v : Value} {zs : List Int} (h : OwnI B w v zs) : OwnI B w.drew v zs := h
theorem below_drew {B : Nat} {w w' : World} (h : Below B w w') : Below B w w'.drew := below_drewN h 1
theorem pair_at {b c j : Nat} {p : Option Addr} {w : World} {xs : List Int} (h : Ints b w (.slice p xs.length c) xs) (hj : j < xs.length) : ∃ g o, p = some ⟨g, o, none⟩ ∧ w.cell? ⟨g, o + j, none⟩ = some (.int .i64 (xs.getD j 0)) := by
  obtain ⟨p', c', hv, _, hc⟩ := h.open_
  injection hv with e1 _ _
  subst e1
  obtain ⟨g, o, rfl, _, _, h1⟩ := hc j hj
  exact ⟨g, o, rfl, h1⟩
end Go.Proofs.YtcmafmdcgkpagaaGreat.Or
namespace Go.Proofs.YtcmafmdcgkpagaaGreat.Or
open Go.ChangeShapes Go.WideShapes Go.ChangeAt Go.RowKit Base Lst
set_option maxHeartbeats 1000000 in
theorem rindex_any {base : Nat} {v : Value} {xs : List Int} (i : Int) (w : World) (h : Ints base w v xs) : Calls Tryz.prog 50 #[v, .int .i64 i] w fun e w' => e = .returned (.int .i64 (Om.idx xs i)) ∧ w = w' := by
  obtain ⟨p, c, rfl, hl, hc⟩ := h.open_
  have HC := Lib.hid hc
  have HY : Hid (∀ k, k < xs.length → xs.getD k 0 = i → (∀ j, j < k → xs.getD j 0 ≠ i) → Om.idx xs i = k) := Lib.hid fun k hk e hn => Om.idx_hit k hk e hn
  have HN : Hid ((∀ j, j < xs.length → xs.getD j 0 ≠ i) → Om.idx xs i = -1) := Lib.hid fun h => Om.idx_miss h
  clear hc h
  generalize Om.idx xs i = r at HY HN ⊢
  go_enter Tryz.func50, Tryz.ntmps50
  go_wp2_with fail
  go_loopw [9] (fun s9 wr => ∃ k : Nat, s9 = .int .i64 k ∧ k ≤ xs.length ∧ wr = w ∧ Hid (∀ j, j < k → xs.getD j 0 ≠ i)) (fun s9 _ => xs.length - (intOf s9).toNat)
  case atStart => exact ⟨0, rfl, Nat.zero_le _, rfl, Lib.hid fun j hj => absurd hj (by omega)⟩
  case round =>
    obtain ⟨k, rfl, hk, rfl, HK⟩ := hrel
    by_cases hlt : k < xs.length
    · obtain ⟨g', o', rfl, _, _, hcell⟩ := HC.out k hlt
      have HYK := Lib.hid (HY.out k hlt)
      have HKK : Hid (xs.getD k 0 ≠ i → ∀ j, j < k + 1 → xs.getD j 0 ≠ i) := Lib.hid fun h j hj => by
        by_cases e : j = k
        · rw [e]; exact h
        · exact HK.out j (by omega)
      generalize xs.getD k 0 = x at hcell HYK HKK
      by_cases hx : x = i
      · have HR := Lib.hid (HYK.out hx HK.out)
        subst hx
        clear HKK HK HYK
        go_wp2
        go_ret
        exact ⟨ret_int HR.out.symm, rfl⟩
      · have HK2 := Lib.hid (HKK.out hx)
        have hd : (x == i) = false := by rw [beq_eq_false_iff_ne]; exact hx
        clear HKK HK HYK
        go_wp2_with fail
        go_roundw
        case rel => exact ⟨k + 1, by go_num, by omega, trivial, HK2⟩
        case measure => simp [intOf]; omega
    · have HR := Lib.hid (HN.out (fun j hj => HK.out j (by omega)))
      clear HK HY HN
      go_wp2
      go_ret
      exact ⟨ret_int HR.out.symm, rfl⟩
theorem count_snoc (xs : List Int) (k : Nat) (h : k < xs.length) (x : Int) : (xs.take (k + 1)).count x = (xs.take k).count x + (if x = xs.getD k 0 then 1 else 0) := Om.count_take xs k h x
set_option maxHeartbeats 1000000 in
theorem rcount_any {base : Nat} {v : Value} {xs : List Int} (i : Int) (w : World) (h : Ints base w v xs) (hx : xs.length ≤ 1000000) : Calls Tryz.prog 48 #[v, .int .i64 i] w fun e w' => e = .returned (.int .i64 (xs.count i : Nat)) ∧ w = w' := by
  obtain ⟨p, c, rfl, hl, hc⟩ := h.open_
  have HC := Lib.hid hc
  have HN : Hid (∀ k, xs.length ≤ k → (xs.take k).count i = xs.count i) := Lib.hid fun k hk => by rw [List.take_of_length_le hk]
  clear hc h
  obtain ⟨r, hr⟩ : ∃ r, r = xs.count i := ⟨_, rfl⟩
  rw [← hr] at HN ⊢
  clear hr
  go_enter Tryz.func48, Tryz.ntmps48
  go_wp2_with fail
  go_loopw [5, 10] (fun s5 s10 wr => ∃ k m : Nat, s10 = .int .i64 k ∧ s5 = .int .i64 m ∧ k ≤ xs.length ∧ m ≤ k ∧ wr = w ∧ Hid (m = (xs.take k).count i)) (fun _ s10 _ => xs.length - (intOf s10).toNat)
  case atStart => exact ⟨0, 0, rfl, rfl, Nat.zero_le _, Nat.le_refl _, rfl, Lib.hid (by simp)⟩
  case round =>
    obtain ⟨k, m, rfl, rfl, hk, hm, rfl, HK⟩ := hrel
    by_cases hlt : k < xs.length
    · obtain ⟨g', o', rfl, _, _, hcell⟩ := HC.out k hlt
      have HKK := Lib.hid (count_snoc xs k hlt i)
      generalize xs.getD k 0 = x at hcell HKK
      by_cases hx : i = x
      · subst hx
        have HK2 : Hid (m + 1 = (xs.take (k + 1)).count i) := Lib.hid (by rw [HKK.out, if_pos rfl, HK.out])
        clear HKK HK
        go_wp2_with fail
        go_roundw
        case rel => exact ⟨k + 1, m + 1, by go_num, by go_num, by omega, by omega, trivial, HK2⟩
        case measure => simp [intOf]; omega
      · have HK2 : Hid (m = (xs.take (k + 1)).count i) := Lib.hid (by rw [HKK.out, if_neg hx, HK.out]; rfl)
        have hd : (i == x) = false := by rw [beq_eq_false_iff_ne]; exact hx
        clear HKK HK
        go_wp2_with fail
        go_roundw
        case rel => exact ⟨k + 1, m, by go_num, rfl, by omega, by omega, trivial, HK2⟩
        case measure => simp [intOf]; omega
    · have HR : Hid (m = r) := Lib.hid (by rw [HK.out, HN.out k (by omega)])
      clear HK HN
      obtain rfl := HR.out
      go_wp2
      go_ret
      exact ⟨rfl, rfl⟩
def idB (x : Int) : Bool := decide (1 ≤ x ∧ x ≤ 1048575)
theorem rid_any (x : Int) (w : World) : Calls Tryz.prog 43 #[.int .i64 x] w fun e w' => e = .returned (.bool (idB x)) ∧ w = w' := by
  by_cases h1 : 1 ≤ x
  · by_cases h2 : x ≤ 1048575
    · have hi : idB x = true := decide_eq_true ⟨h1, h2⟩
      rw [hi]
      clear hi
      go_enter Tryz.func43, Tryz.ntmps43
      go_wp2
      go_ret
      exact ⟨ret_bool (by simp), rfl⟩
    · have hi : idB x = false := decide_eq_false fun h => h2 h.2
      rw [hi]
      clear hi
      go_enter Tryz.func43, Tryz.ntmps43
      go_wp2
      go_ret
      exact ⟨ret_bool (by simp), rfl⟩
  · have hi : idB x = false := decide_eq_false fun h => h1 h.1
    rw [hi]
    clear hi
    go_enter Tryz.func43, Tryz.ntmps43
    go_wp2
    go_ret
    exact ⟨rfl, rfl⟩
set_option maxHeartbeats 1000000 in
theorem rnext_any {base : Nat} {v : Value} {xs : List Int} (x : Int) (w : World) (h : Ints base w v xs) (hx : xs.length ≤ 1000000) : Calls Tryz.prog 32 #[v, .int .i64 x] w fun e w' => e = .returned (.tuple #[.int .i64 (Om.nextV xs x), .bool (Om.nextB xs x)]) ∧ w = w' := by
  unfold Om.nextV Om.nextB Om.nextAt
  have HI := Lib.hid (rindex_any x w h)
  have hb := Om.idx_bd xs x
  obtain ⟨p, c, rfl, hl, hc⟩ := h.open_
  by_cases h0 : x = 0
  · subst h0
    rw [if_pos rfl]
    by_cases hn : 0 < xs.length
    · obtain ⟨g', o', rfl, _, _, hcell⟩ := hc 0 hn
      rw [Nat.add_zero] at hcell
      have e1 := Om.atV_in 0 hn
      have e2 := Om.atB_in 0 hn
      simp only [Int.natCast_zero] at e1 e2
      rw [e1, e2]
      have hge : decide (xs.length ≤ 0) = false := by rw [decide_eq_false]; omega
      have hge' : decide ((xs.length : Int) ≤ 0) = false := by rw [decide_eq_false]; omega
      generalize xs.getD 0 0 = y at hcell ⊢
      generalize Om.idx xs 0 = i at HI hb
      clear hc h e1 e2 hge hge'
      generalize xs.length = n at HI hb hn hx hl ⊢
      have hge : (n == 0) = false := by rw [beq_eq_false_iff_ne]; omega
      have hge1 : ¬ n = 0 := by omega
      go_enter Tryz.func32, Tryz.ntmps32
      go_wp2_with (go_at_call 50; refine HI.out.mono ?_; rintro e w' ⟨rfl, rfl⟩)
      go_ret2
      exact ⟨rfl, rfl⟩
    · rw [Om.atV_out (.inr (by omega)), Om.atB_out (.inr (by omega))]
      have hge : decide (xs.length ≤ 0) = true := by rw [decide_eq_true]; omega
      have hge' : decide ((xs.length : Int) ≤ 0) = true := by rw [decide_eq_true]; omega
      generalize Om.idx xs 0 = i at HI hb
      clear hc h hge hge'
      generalize xs.length = n at HI hb hn hx hl ⊢
      obtain rfl : n = 0 := by omega
      go_enter Tryz.func32, Tryz.ntmps32
      go_wp2_with (go_at_call 50; refine HI.out.mono ?_; rintro e w' ⟨rfl, rfl⟩)
      go_ret2
      exact ⟨rfl, rfl⟩
  · rw [if_neg h0]
    have hd : (x == 0) = false := by rw [beq_eq_false_iff_ne]; exact h0
    by_cases hm : x ∈ xs
    · rw [if_pos hm]
      have hb0 : 0 ≤ Om.idx xs x := by rw [Om.idx_mem hm]; omega
      obtain ⟨i, hi⟩ : ∃ i : Nat, Om.idx xs x = i := ⟨(Om.idx xs x).toNat, by omega⟩
      rw [hi] at HI hb ⊢
      clear hi hb0 h h0 hm
      by_cases hn : i + 1 < xs.length
      · obtain ⟨g', o', rfl, _, _, hcell⟩ := hc (i + 1) hn
        have e1 := Om.atV_in (i + 1) hn
        have e2 := Om.atB_in (i + 1) hn
        have e3 : ((i + 1 : Nat) : Int) = (i : Int) + 1 := by omega
        rw [e3] at e1 e2
        rw [e1, e2]
        have hge : decide (xs.length ≤ i + 1) = false := by rw [decide_eq_false]; omega
        have hge' : decide ((xs.length : Int) ≤ (i : Int) + 1) = false := by rw [decide_eq_false]; omega
        have hlt : (i : Int) + 1 < (xs.length : Int) := by omega
        generalize xs.getD (i + 1) 0 = y at hcell ⊢
        clear hc e1 e2 e3
        go_enter Tryz.func32, Tryz.ntmps32
        go_wp2_with (go_at_call 50; refine HI.out.mono ?_; rintro e w' ⟨rfl, rfl⟩)
        go_ret2
        exact ⟨rfl, rfl⟩
      · rw [Om.atV_out (.inr (by omega)), Om.atB_out (.inr (by omega))]
        have hge : decide (xs.length ≤ i + 1) = true := by rw [decide_eq_true]; omega
        have hge' : decide ((xs.length : Int) ≤ (i : Int) + 1) = true := by rw [decide_eq_true]; omega
        clear hc
        go_enter Tryz.func32, Tryz.ntmps32
        go_wp2_with (go_at_call 50; refine HI.out.mono ?_; rintro e w' ⟨rfl, rfl⟩)
        go_ret2
        exact ⟨rfl, rfl⟩
    · rw [if_neg hm, Om.atV_out (.inl (by omega)), Om.atB_out (.inl (by omega))]
      rw [Om.idx_no hm] at HI
      clear h h0 hm hb hc
      go_enter Tryz.func32, Tryz.ntmps32
      go_wp2_with (go_at_call 50; refine HI.out.mono ?_; rintro e w' ⟨rfl, rfl⟩)
      go_ret2
      exact ⟨rfl, rfl⟩
set_option maxHeartbeats 1000000 in
theorem rperm_any {b1 b2 : Nat} {v u : Value} {xs ys : List Int} (w : World) (h : Ints b1 w v xs) (hu : Ints b2 w u ys) (hx : xs.length ≤ 1000000) : Calls Tryz.prog 27 #[v, u] w fun e w' => e = .returned (.bool (Om.permB xs ys)) ∧ w = w' := by
  by_cases hn : xs.length = ys.length
  · have HA : Hid (∀ x, Calls Tryz.prog 48 #[v, .int .i64 x] w fun e w' => e = .returned (.int .i64 (xs.count x : Nat)) ∧ w = w') := Lib.hid fun x => rcount_any x w h hx
    have HB : Hid (∀ x, Calls Tryz.prog 48 #[u, .int .i64 x] w fun e w' => e = .returned (.int .i64 (ys.count x : Nat)) ∧ w = w') := Lib.hid fun x => rcount_any x w hu (by omega)
    obtain ⟨p, c, rfl, hl, hc⟩ := h.open_
    obtain ⟨p', c', rfl, hl', hc'⟩ := hu.open_
    have HC := Lib.hid hc
    have HNO : Hid (∀ x, xs.count x ≠ ys.count x → Om.permB xs ys = false) := Lib.hid fun x h => Om.perm_no x h
    have HYES : Hid ((∀ j, j < xs.length → xs.count (xs.getD j 0) = ys.count (xs.getD j 0)) → Om.permB xs ys = true) := Lib.hid fun h => Om.perm_yes' hn fun y hy => by
      obtain ⟨j, hj, e⟩ := List.getElem_of_mem hy
      have := h j hj
      rw [List.getD_eq_getElem?_getD, List.getElem?_eq_getElem hj] at this
      rw [← e]
      exact this
    have hb : ((xs.length : Int) != (ys.length : Int)) = false := by rw [bne_eq_false_iff_eq]; omega
    clear hc hc' h hu hn
    generalize Om.permB xs ys = r at HNO HYES ⊢
    go_enter Tryz.func27, Tryz.ntmps27
    go_wp2_with fail
    go_loopw [14] (fun s14 wr => ∃ k : Nat, s14 = .int .i64 k ∧ k ≤ xs.length ∧ wr = w ∧ Hid (∀ j, j < k → xs.count (xs.getD j 0) = ys.count (xs.getD j 0))) (fun s14 _ => xs.length - (intOf s14).toNat)
    case atStart => exact ⟨0, rfl, Nat.zero_le _, rfl, Lib.hid fun j hj => absurd hj (by omega)⟩
    case round =>
      obtain ⟨k, rfl, hk, rfl, HR⟩ := hrel
      by_cases hlt : k < xs.length
      · obtain ⟨g', o', rfl, _, hg', hcell⟩ := HC.out k hlt
        have HA1 := Lib.hid (HA.out (xs.getD k 0))
        have HB1 := Lib.hid (HB.out (xs.getD k 0))
        have HBK := Lib.hid (HNO.out (xs.getD k 0))
        have HST : Hid (xs.count (xs.getD k 0) = ys.count (xs.getD k 0) → ∀ j, j < k + 1 → xs.count (xs.getD j 0) = ys.count (xs.getD j 0)) := Lib.hid fun h j hj => by
          by_cases e : j = k
          · rw [e]; exact h
          · exact HR.out j (by omega)
        generalize xs.getD k 0 = x at hcell HA1 HB1 HBK HST
        obtain ⟨m, hm⟩ : ∃ m, m = xs.count x := ⟨_, rfl⟩
        obtain ⟨n, hn⟩ : ∃ n, n = ys.count x := ⟨_, rfl⟩
        rw [← hm, ← hn] at HBK HST
        rw [← hm] at HA1
        rw [← hn] at HB1
        clear hm hn HA HB
        by_cases he : m = n
        · have HX := Lib.hid (HST.out he)
          subst he
          clear HR HST HBK
          go_wp2_with (first
            | (go_at_call 48; ((with_reducible refine HA1.out.mono ?_); rintro e w' ⟨rfl, rfl⟩))
            | (go_at_call 48; ((with_reducible refine HB1.out.mono ?_); rintro e w' ⟨rfl, rfl⟩)))
          go_roundw
          case rel => exact ⟨k + 1, by go_num, by omega, trivial, HX⟩
          case measure => simp [intOf]; omega
        · have HX := Lib.hid (HBK.out he)
          have hd : ((m : Int) != (n : Int)) = true := by rw [bne_iff_ne]; omega
          clear HR HST HBK he
          go_wp2_with (first
            | (go_at_call 48; ((with_reducible refine HA1.out.mono ?_); rintro e w' ⟨rfl, rfl⟩))
            | (go_at_call 48; ((with_reducible refine HB1.out.mono ?_); rintro e w' ⟨rfl, rfl⟩)))
          go_ret
          exact ⟨ret_bool HX.out.symm, rfl⟩
      · have HX := Lib.hid (HYES.out fun j hj => HR.out j (by omega))
        clear HR HYES HNO HA HB
        go_wp2
        go_ret
        exact ⟨ret_bool HX.out.symm, rfl⟩
  · have hr := Om.perm_len hn
    rw [hr]
    obtain ⟨p, c, rfl, hl, hc⟩ := h.open_
    obtain ⟨p', c', rfl, hl', hc'⟩ := hu.open_
    have hb : ((xs.length : Int) != (ys.length : Int)) = true := by rw [bne_iff_ne]; omega
    clear hc hc' h hu hn hr
    go_enter Tryz.func27, Tryz.ntmps27
    go_wp2
    go_ret
    exact ⟨rfl, rfl⟩
end Go.Proofs.YtcmafmdcgkpagaaGreat.Or
