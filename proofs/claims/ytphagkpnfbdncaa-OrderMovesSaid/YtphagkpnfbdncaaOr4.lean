/-
  Lists of ints of the call's own: a part laid over, a number set; order's Move. Not a statement of the seat.
-/
import Derived.Test.YtphagkpnfbdncaaOr3
import Derived.Laws.CopyOwn
import Derived.IntWalk
namespace Go.Proofs.Ytphagkpnfbdncaa.Or
open Go.ChangeShapes Go.WideShapes Go.ChangeAt Go.RowKit Base Lst Go.Sort
theorem int_sz : (Try.prog.info? 3).map (·.size) = some 1 := by kernel_rfl
theorem map_lay (zs ys : List Int) (off : Nat) : (Om.lay zs off ys).map (Value.int .i64) = splice (zs.map (Value.int .i64)) off (ys.map (Value.int .i64)) := by
  unfold Om.lay splice
  simp
theorem own_lay {B : Nat} {w w' : World} {g n cap off : Nat} {zs ys : List Int} {cur : Array Value} (h : OwnI B w (.slice (some ⟨g, 0, none⟩) n cap) zs) (hg : w.heap[g]? = some (.cells cur 3)) (hfit : off + ys.length ≤ zs.length)
    (h' : w'.heap[g]? = some (.cells (splice cur.toList off (ys.map (Value.int .i64))).toArray 3)) : OwnI B w' (.slice (some ⟨g, 0, none⟩) n cap) (Om.lay zs off ys) := by
  rcases h.2 with ⟨hv, _⟩ | ⟨g', cap', cur', hv, hB, hg', hc, hmx, hsz, htk⟩
  · cases hv
  · injection hv with e1 e2 e3
    injection e1 with e1
    injection e1 with e1
    subst e1 e2 e3
    rw [hg] at hg'
    obtain rfl : cur = cur' := by injection hg' with h; injection h
    have hl := Om.lay_length (l := zs) (ys := ys) hfit
    refine ⟨by simp, .inr ⟨g, cap, _, by rw [hl], hB, h', by omega, hmx, ?_, ?_⟩⟩
    · rw [List.size_toArray, length_splice _ _ _ (by simp; omega)]
      simpa using hsz
    · rw [hl, map_lay, ← htk]
      have hlc : cur.toList.length = cap := by simpa using hsz
      unfold splice
      apply List.ext_getElem?
      intro k
      simp only [List.length_map, List.getElem?_take, List.getElem?_append, List.getElem?_drop, List.length_take, hlc]
      repeat' split
      all_goals first | rfl | omega | (congr 1; omega)
theorem own_set {B : Nat} {w : World} {g n cap i : Nat} {zs : List Int} (h : OwnI B w (.slice (some ⟨g, 0, none⟩) n cap) zs) (_ : i < zs.length) (x : Int) : OwnI B (w.setCell ⟨g, i, none⟩ (.int .i64 x)) (.slice (some ⟨g, 0, none⟩) n cap) (zs.set i x) := by
  rcases h.2 with ⟨hv, _⟩ | ⟨g', cap', cur, hv, hB, hg, hc, hmx, hsz, htk⟩
  · cases hv
  · injection hv with e1 e2 e3
    injection e1 with e1
    injection e1 with e1
    subst e1 e2 e3
    refine ⟨by simp, .inr ⟨g, cap, cur.setIfInBounds i (.int .i64 x), by rw [List.length_set], hB, ?_, by rw [List.length_set]; exact hc, hmx, by simpa using hsz, ?_⟩⟩
    · exact heap_setCell_same w g i cur 3 (.int .i64 x) hg
    · rw [List.length_set, List.map_set, ← htk, Array.toList_setIfInBounds, List.take_set]
theorem own_cell {B : Nat} {w : World} {g n cap i : Nat} {zs : List Int} (h : OwnI B w (.slice (some ⟨g, 0, none⟩) n cap) zs) (hi : i < zs.length) : w.cell? ⟨g, i, none⟩ = some (.int .i64 (zs.getD i 0)) ∧ w.frozen? ⟨g, i, none⟩ = false := by
  have := h.holds i (by simpa using hi)
  rw [Nat.zero_add] at this
  refine ⟨?_, this.2⟩
  rw [this.1, List.getD_eq_getElem?_getD, List.getElem?_eq_getElem hi]
  simp [hi]
/-- A part of a list of the call's own is laid over by another list: one step of a region that draws its order. -/
theorem step_copy_ints {ops : Array Oper} {o : Oper} {a : Act} {w : World} {K : Act → World → Prop} {Q : Exit → Act → World → Prop} {E : Prop} (hgd : o.guard = none) (d s : Operand)
    (ho : o.op = .call { callee := .builtin .copy, args := #[d, s], argTypes := #[22, 22] }) {B b : Nat} {w0 : World} {g n cap : Nat} {zs ys : List Int} (hown : OwnI B w (.slice (some ⟨g, 0, none⟩) n cap) zs) (hb : Below B w0 w) (off : Nat)
    {dp : Option Addr} {m dc : Nat} {u : Value} (hd : a.eval d = .slice dp m dc) (hs : a.eval s = u) (hm : m = ys.length) (hsrc : Ints b w u ys) (hpos : 0 < ys.length → dp = some ⟨g, off, none⟩) (hfit : off + ys.length ≤ zs.length)
    (h : ∀ w', OwnI B w' (.slice (some ⟨g, 0, none⟩) n cap) (Om.lay zs off ys) → Below B w0 w' → K (a.put o.dst (goInt ys.length)) w') :
    if Region.wanted o (yielded ops a.tmps) = true then Oper.wp Try.prog o a w K Q else E := by
  subst hm
  rcases hown.2 with ⟨hv, _⟩ | ⟨g', cap', cur, hv, hB, hg, hc, hmx, hsz, htk⟩
  · cases hv
  · injection hv with e1 e2 e3
    injection e1 with e1
    injection e1 with e1
    subst e1 e2 e3
    obtain ⟨sp, sc, rfl, hl, hcell⟩ := hsrc.open_
    have e0 : ((ys.map (Value.int .i64)).length : Nat) = ys.length := List.length_map ..
    refine step_copy_splice hgd d s 22 22 ho 3 Try.underlying22 int_sz dp sp _ dc _ sc hd hs g off cur.toList 3 hg (ys.map (Value.int .i64)) (by rw [e0]; exact (Nat.min_self _).symm) (fun hp => ?_) (by rw [e0]; simp; omega) (fun v hv => by obtain ⟨x, _, rfl⟩ := List.mem_map.1 hv; rfl) B w0 hb hB (fun w' h1 h2 => ?_)
    · rw [e0] at hp
      refine ⟨hpos hp, ?_⟩
      obtain ⟨q, o', rfl, _, _, _⟩ := hcell 0 hp
      refine ⟨_, rfl, fun j v hj => ?_⟩
      obtain ⟨hk, rfl⟩ := map_at ys j v hj
      obtain ⟨q', o'', he, _, _, hc'⟩ := hcell j hk
      rw [add_plain]
      injection he with he
      injection he with e1 e2
      subst e1 e2
      exact hc'
    · rw [e0]
      exact h w' (own_lay hown hg hfit h1.out) h2
/-- A slice of ints, cut: the value, and what it holds. -/
theorem cut_lh {base : Nat} {W : World} {p : Option Addr} {c : Nat} {xs : List Int} (h : Ints base W (.slice p xs.length c) xs) (lo hi : Nat) (h1 : lo ≤ hi) (h2 : hi ≤ xs.length) (h3 : xs.length ≤ c) :
    ∃ p' c', (∀ w, (Instr.sliceAt 22 (.slice p xs.length c) (some (.int .i64 (lo : Int))) (some (.int .i64 (hi : Int))) none).run Try.prog w = .ok (.slice p' (hi - lo) c') w) ∧ (lo < hi → ∀ g o, p = some ⟨g, o, none⟩ → p' = some ⟨g, o + lo, none⟩) ∧ Ints base W (.slice p' (hi - lo) c') ((xs.drop lo).take (hi - lo)) ∧ ((xs.drop lo).take (hi - lo)).length = hi - lo :=
  ⟨if c = lo then p else p.map (·.add (lo * 1)), c - lo, fun w => by rw [run_sliceAt_slice _ _ _ _ _ _ elemInts, run_slice_lh w _ _ _ _ elemInts _ _ _ _ (by omega) (by omega) (by omega), elemInts', sizeInt]; rfl, fun h g o e => by
    subst e
    rw [if_neg (by omega)]
    simp [Addr.add], h.part lo hi h1 h2 h3, by rw [List.length_take, List.length_drop]; omega⟩
/-- What a call leaves that tells a list and an error. -/
def ListErr (ys : List Int) (x : Int) (w : World) (e : Ending) (w' : World) : Prop := ∃ v, e = .returned (.tuple #[v, .int .i64 x]) ∧ OwnI w.heap.size w' v ys ∧ Below w.heap.size w w'
/-- A list in memory, whose slice is no longer than its room. -/
def Sl (w : World) (v : Value) (xs : List Int) : Prop := Ints 0 w v xs ∧ ∃ p c, v = .slice p xs.length c ∧ xs.length ≤ c
theorem Sl.below {w w' : World} {v : Value} {xs : List Int} (h : Sl w v xs) (hb : Below w.heap.size w w') : Sl w' v xs := ⟨h.1.below hb, h.2⟩
theorem own_drew {B : Nat} {w : World} {v : Value} {zs : List Int} (h : OwnI B w v zs) : OwnI B w.drew v zs := h
theorem below_drew {B : Nat} {w w' : World} (h : Below B w w') : Below B w w'.drew := below_drewN h 1
theorem pair_at {b c j : Nat} {p : Option Addr} {w : World} {xs : List Int} (h : Ints b w (.slice p xs.length c) xs) (hj : j < xs.length) : ∃ g o, p = some ⟨g, o, none⟩ ∧ w.cell? ⟨g, o + j, none⟩ = some (.int .i64 (xs.getD j 0)) := by
  obtain ⟨p', c', hv, _, hc⟩ := h.open_
  injection hv with e1 _ _
  subst e1
  obtain ⟨g, o, rfl, _, _, h1⟩ := hc j hj
  exact ⟨g, o, rfl, h1⟩
set_option maxHeartbeats 2000000 in
theorem move_any {v : Value} {xs : List Int} (x place : Int) (w : World) (h : Sl w v xs) (hl : xs.length ≤ 1000000) (hpl : -9223372036854775808 ≤ place ∧ place ≤ 9223372036854775807) : Calls Try.prog 11 #[v, .int .i64 x, .int .i64 place] w (ListErr (Om.moveL xs x place) (Om.moveE xs x place) w) := by
  obtain ⟨hx, p, c, rfl, hcap⟩ := h
  have HI := Lib.hid (index_any x w hx)
  have HE : Hid (∀ v1 e w', e = Om.moveE xs x place → OwnI w.heap.size w' v1 (Om.moveL xs x place) → Below w.heap.size w w' → ListErr (Om.moveL xs x place) (Om.moveE xs x place) w (.returned (.tuple #[v1, .int .i64 e])) w') := Lib.hid fun v1 e w' h1 h2 h3 => ⟨v1, by rw [h1], h2, h3⟩
  have hb := Om.idx_bd xs x
  by_cases hm : x ∈ xs
  · have hb0 : 0 ≤ Om.idx xs x := by rw [Om.idx_mem hm]; omega
    by_cases hr : place < 0 ∨ (xs.length : Int) ≤ place
    · have HR := Lib.hid (Om.move_range hm hr)
      generalize Om.idx xs x = i at HI hb hb0
      generalize hP : ListErr (Om.moveL xs x place) (Om.moveE xs x place) w = Post at HE ⊢
      clear hx hm hP
      rcases hr with hr | hr
      · go_enter Try.func11, Try.ntmps11
        go_wp2_with (go_at_call 27; refine HI.out.mono ?_; rintro e w' ⟨rfl, rfl⟩)
        exact HE.out _ _ _ HR.out.2.symm (by rw [HR.out.1]; exact OwnI.nil _ _) (Below.refl _ _)
      · have hr0 : ¬ place < 0 := by omega
        go_enter Try.func11, Try.ntmps11
        go_wp2_with (go_at_call 27; refine HI.out.mono ?_; rintro e w' ⟨rfl, rfl⟩)
        exact HE.out _ _ _ HR.out.2.symm (by rw [HR.out.1]; exact OwnI.nil _ _) (Below.refl _ _)
    · obtain ⟨k, rfl⟩ : ∃ k : Nat, place = (k : Int) := ⟨place.toNat, by omega⟩
      have hk : k < xs.length := by omega
      have hi := List.idxOf_lt_length_of_mem hm
      have HR := Lib.hid (Om.move_ok hm k hk)
      have HC := Lib.hid (clone_any w hx hl)
      have HUP : Hid (xs.idxOf x < k → (Om.lay xs (xs.idxOf x) ((xs.drop (xs.idxOf x + 1)).take (k - xs.idxOf x))).set k x = Om.moveL xs x (k : Int)) := Lib.hid fun h => by rw [HR.out.1]; exact Om.mv_up x h hk
      have HDN : Hid (k ≤ xs.idxOf x → (Om.lay xs (k + 1) ((xs.drop k).take (xs.idxOf x - k))).set k x = Om.moveL xs x (k : Int)) := Lib.hid fun h => by rw [HR.out.1]; exact Om.mv_down x h hi
      rw [Om.idx_mem hm] at HI
      have HX := Lib.hid hx
      have HRE := Lib.hid HR.out.2
      have hge : decide (xs.length ≤ k) = false := by rw [decide_eq_false]; omega
      have hge' : decide ((xs.length : Int) ≤ (k : Int)) = false := by rw [decide_eq_false]; omega
      generalize xs.idxOf x = i at HI hi HUP HDN
      have HCC : Hid (Calls Try.prog 29 #[.slice p xs.length c] w fun e w' => ∃ g cap, e = .returned (.slice (some ⟨g, 0, none⟩) xs.length cap) ∧ xs.length ≤ cap ∧ OwnI w.heap.size w' (.slice (some ⟨g, 0, none⟩) xs.length cap) xs ∧ Below w.heap.size w w') := Lib.hid (HC.out.mono fun e w' ⟨v1, h1, h2, h3⟩ => by
        rcases h2.form with ⟨h4, _⟩ | ⟨g, cap, rfl, _, _, h5⟩
        · rw [h4] at hk; exact absurd hk (by simp)
        · exact ⟨g, cap, h1, h5, h2, h3⟩)
      have HSET : Hid (∀ (w' : World) (g cap : Nat) (ys : List Int), OwnI w.heap.size w' (.slice (some ⟨g, 0, none⟩) xs.length cap) ys ∧ Below w.heap.size w w' → ys.length = xs.length → ys.set k x = Om.moveL xs x (k : Int) → (w'.cell? ⟨g, k, none⟩ = some (.int .i64 (ys.getD k 0)) ∧ w'.frozen? ⟨g, k, none⟩ = false) ∧ ListErr (Om.moveL xs x (k : Int)) (Om.moveE xs x (k : Int)) w (.returned (.tuple #[.slice (some ⟨g, 0, none⟩) xs.length cap, .int .i64 0])) (w'.setCell ⟨g, k, none⟩ (.int .i64 x))) := Lib.hid fun w' g cap ys h hy hs => by
        refine ⟨own_cell h.1 (by omega), _, by rw [HRE.out], ?_, ?_⟩
        · rw [← hs]
          exact own_set h.1 (by omega) x
        · have hB := (own_base h.1 g rfl)
          exact h.2.setCell hB _
      generalize ListErr (Om.moveL xs x (k : Int)) (Om.moveE xs x (k : Int)) w = Post at HE HSET ⊢
      clear hx hr HR hb hb0 hm HC
      by_cases hik : i < k
      · have hik' : (i : Int) < (k : Int) := by omega
        have HS := cut_lh HX.out (i + 1) (k + 1) (by omega) (by omega) hcap
        have e1 : ((i + 1 : Nat) : Int) = (i : Int) + 1 := by omega
        have e2 : ((k + 1 : Nat) : Int) = (k : Int) + 1 := by omega
        have e3 : k + 1 - (i + 1) = k - i := by omega
        rw [e1, e2, e3] at HS
        obtain ⟨p2, c2, hr2, _, hi2, hl2⟩ := HS
        clear e1 e2 e3
        have HI2 := Lib.hid hi2
        have HL2 := Lib.hid hl2
        have HU := Lib.hid (HUP.out hik)
        clear hi2 hl2 HUP HDN
        generalize (xs.drop (i + 1)).take (k - i) = ys at HI2 HL2 HU
        go_enter Try.func11, Try.ntmps11
        go_wp2_with (first
          | (go_at_call 27; refine HI.out.mono ?_; rintro e w' ⟨rfl, rfl⟩)
          | (go_at_call 29; refine HCC.out.mono ?_; rintro e w1 ⟨g, cap, rfl, hcc, h1, h2⟩; have H1 := Lib.hid h1; have H2 := Lib.hid h2; clear h1 h2))
        obtain ⟨p1, c1, hr1, hp1, _, _⟩ := cut_lh (H1.out.ints (by omega)) i k (by omega) (by omega) hcc
        have HP1 := Lib.hid (hp1 (by omega) g 0 rfl)
        clear hp1
        have hw1 : IntKind.i64.wrap ((i : Int) + 1) = (i : Int) + 1 := IntWalk.i64_in _ (by omega)
        have hw2 : IntKind.i64.wrap ((k : Int) + 1) = (k : Int) + 1 := IntWalk.i64_in _ (by omega)
        go_region_law (first | (refine step_copy_ints rfl (.tmp 31) (.tmp 37) rfl (own_drew H1.out) (below_drew H2.out) i (dp := p1) (m := k - i) (dc := c1) (u := .slice p2 (k - i) c2) (by simp [Act.eval, Act.put]) (by simp [Act.eval, Act.put]) HL2.out.symm (HI2.out.below (below_drew H2.out)) (fun _ => by rw [HP1.out, Nat.zero_add]) (by rw [HL2.out]; omega) ?_; intro w4 h4 h5; have H4 := Lib.hid h4; have H5 := Lib.hid h5; clear h4 h5) | skip)
        obtain ⟨⟨hc4, hf4⟩, hp4⟩ := HSET.out w4 g cap _ ⟨H4.out, H5.out⟩ (Om.lay_length (by rw [HL2.out]; omega)) HU.out
        have HP4 := Lib.hid hp4
        clear hp4 hw1 hw2 hr1 hr2
        generalize (Om.lay xs i ys).getD k 0 = y4 at hc4
        go_wp2
        exact HP4.out
      · have hik' : ¬ (i : Int) < (k : Int) := by omega
        obtain ⟨p2, c2, hr2, _, hi2, hl2⟩ := cut_lh HX.out k i (by omega) (by omega) hcap
        have HI2 := Lib.hid hi2
        have HL2 := Lib.hid hl2
        have HU := Lib.hid (HDN.out (by omega))
        clear hi2 hl2 HUP HDN
        generalize (xs.drop k).take (i - k) = ys at HI2 HL2 HU
        go_enter Try.func11, Try.ntmps11
        go_wp2_with (first
          | (go_at_call 27; refine HI.out.mono ?_; rintro e w' ⟨rfl, rfl⟩)
          | (go_at_call 29; refine HCC.out.mono ?_; rintro e w1 ⟨g, cap, rfl, hcc, h1, h2⟩; have H1 := Lib.hid h1; have H2 := Lib.hid h2; clear h1 h2))
        have HS := cut_lh (H1.out.ints (by omega)) (k + 1) (i + 1) (by omega) (by omega) hcc
        have e1 : ((i + 1 : Nat) : Int) = (i : Int) + 1 := by omega
        have e2 : ((k + 1 : Nat) : Int) = (k : Int) + 1 := by omega
        have e3 : i + 1 - (k + 1) = i - k := by omega
        rw [e1, e2, e3] at HS
        obtain ⟨p1, c1, hr1, hp1, _, _⟩ := HS
        clear e1 e2 e3
        have HP1 : Hid (0 < i - k → p1 = some ⟨g, k + 1, none⟩) := Lib.hid fun h => by rw [hp1 (by omega) g 0 rfl, Nat.zero_add]
        clear hp1
        have hw1 : IntKind.i64.wrap ((i : Int) + 1) = (i : Int) + 1 := IntWalk.i64_in _ (by omega)
        have hw2 : IntKind.i64.wrap ((k : Int) + 1) = (k : Int) + 1 := IntWalk.i64_in _ (by omega)
        go_region_law (first | (refine step_copy_ints rfl (.tmp 44) (.tmp 48) rfl (own_drew H1.out) (below_drew H2.out) (k + 1) (dp := p1) (m := i - k) (dc := c1) (u := .slice p2 (i - k) c2) (by simp [Act.eval, Act.put]) (by simp [Act.eval, Act.put]) HL2.out.symm (HI2.out.below (below_drew H2.out)) (fun h => HP1.out (by rw [HL2.out] at h; exact h)) (by rw [HL2.out]; omega) ?_; intro w4 h4 h5; have H4 := Lib.hid h4; have H5 := Lib.hid h5; clear h4 h5) | skip)
        obtain ⟨⟨hc4, hf4⟩, hp4⟩ := HSET.out w4 g cap _ ⟨H4.out, H5.out⟩ (Om.lay_length (by rw [HL2.out]; omega)) HU.out
        have HP4 := Lib.hid hp4
        clear hp4 hw1 hw2 hr1 hr2
        generalize (Om.lay xs (k + 1) ys).getD k 0 = y4 at hc4
        go_wp2
        exact HP4.out
  · have HR := Lib.hid (Om.move_no (place := place) hm)
    rw [Om.idx_no hm] at HI
    generalize hP : ListErr (Om.moveL xs x place) (Om.moveE xs x place) w = Post at HE ⊢
    clear hx hm hb hP
    go_enter Try.func11, Try.ntmps11
    go_wp2_with (go_at_call 27; refine HI.out.mono ?_; rintro e w' ⟨rfl, rfl⟩)
    exact HE.out _ _ _ HR.out.2.symm (by rw [HR.out.1]; exact OwnI.nil _ _) (Below.refl _ _)
end Go.Proofs.Ytphagkpnfbdncaa.Or
