/-
  Contracts of small functions, several texts laid into one. Not a statement of the seat.
-/
import Derived.Test.YtakgepdlninnhaaDoorLst
import Derived.Laws.AppendOwnNone
import Derived.Maps.AppendAt
import Derived.Deep.RegionLaw
import Derived.Test.YtakgepdlninnhaaDoorHead3
import Derived.Test.YtakgepdlninnhaaDoorHead1
namespace Go.Proofs.YtakgepdlninnhaaDoor.Lst
open Go.ChangeShapes Go.WideShapes Go.ChangeAt Go.RowKit Base
theorem map_at (ys : List Int) (k : Nat) (y : Value) (h : (ys.map (Value.int .i64))[k]? = some y) : k < ys.length ∧ y = .int .i64 (ys.getD k 0) := by
  rw [List.getElem?_map] at h
  obtain ⟨x, hx, rfl⟩ := Option.map_eq_some_iff.1 h
  have hk := (List.getElem?_eq_some_iff.1 hx).1
  refine ⟨hk, ?_⟩
  rw [List.getD_eq_getElem?_getD, hx]
  rfl
theorem run_append_ints {B base : Nat} {w : World} {v u : Value} {zs ys : List Int} (ty : TypeId)
    (hB : B ≤ w.heap.size) (hown : OwnI B w v zs) (hys : Ints base w u ys) (hu : ∀ n c, u = .slice none n c → c = 0) (hl : zs.length + ys.length ≤ 1000000) :
    ∃ v' w', (Builtin.append_ #[30, 30] ty #[v, u]).run Tryd.prog w = .ok v' w' ∧ OwnI B w' v' (zs ++ ys) ∧ w.grownBy w' v.ownBlock ∧ (v'.ownBlock = v.ownBlock ∨ v'.ownBlock = some w.heap.size) := by
  obtain ⟨i0, hi, hz0, hz1, hz2⟩ := info_parts int_info
  rcases hys with ⟨⟨p, c, rfl⟩, rfl⟩ | ⟨g, o', c, rfl, _, _, _, hc⟩
  · cases p with
    | none =>
      obtain rfl := hu _ _ rfl
      exact ⟨v, w, run_append_owned_none (P := Tryd.prog) (w := w) B 30 ty 3 i0 1 Tryd.underlying30 hi v zs.length (zs.map (Value.int .i64)) hown, by rw [List.append_nil]; exact hown, World.grownBy.refl _ _, .inl rfl⟩
    | some ad =>
      obtain ⟨v', w', hr, h2, h3, _, h5⟩ := run_append_own_at (P := Tryd.prog) w B 30 ty 3 i0 (.int .i64 0) 1 8 Tryd.underlying30 hi hz0 hz1 hz2 rfl (by decide) v zs.length (zs.map (Value.int .i64)) hown ad 0 c [] (by simp) (by simp) (by simp) (by simp only [maxLen]; omega) (by omega) hB
      refine ⟨v', w', hr, ?_, h3, h5⟩
      rw [List.append_nil]
      unfold OwnI
      simpa using h2
  · obtain ⟨v', w', hr, h2, h3, _, h5⟩ := run_append_own_at (P := Tryd.prog) w B 30 ty 3 i0 (.int .i64 0) 1 8 Tryd.underlying30 hi hz0 hz1 hz2 rfl (by decide) v zs.length (zs.map (Value.int .i64)) hown ⟨g, o', none⟩ ys.length c (ys.map (Value.int .i64)) (by simp) (by
      intro t y hy
      obtain ⟨hk, rfl⟩ := map_at ys t y hy
      rw [add_plain]
      exact hc t hk) (by
      intro y hy
      obtain ⟨x, _, rfl⟩ := List.mem_map.1 hy
      rfl) (by simp only [maxLen]; omega) (by omega) hB
    refine ⟨v', w', hr, ?_, h3, h5⟩
    unfold OwnI
    rw [List.length_append, List.map_append]
    exact h2
/-- Some are put behind a slice of the call's own. -/
theorem append_ints {ops : Array Oper} {rest : List Oper} {o : Oper} {a : Act} {Q : Exit → Act → World → Prop} (hgd : o.guard = none) (s x : Operand)
    (ho : o.op = .call { callee := .builtin .append, args := #[s, x], argTypes := #[30, 30] }) {B base : Nat} {w : World} {v u : Value} {zs ys : List Int}
    (hB : B ≤ w.heap.size) (hown : OwnI B w v zs) (hs : a.eval s = v) (hys : Ints base w u ys) (hu : ∀ n c, u = .slice none n c → c = 0) (hx : a.eval x = u) (hl : zs.length + ys.length ≤ 1000000)
    (h : ∀ v' w', OwnI B w' v' (zs ++ ys) → w.grownBy w' v.ownBlock → (v'.ownBlock = v.ownBlock ∨ v'.ownBlock = some w.heap.size) → wpList Tryd.prog ops Q rest (a.put o.dst v') w') :
    wpList Tryd.prog ops Q (o :: rest) a w := by
  refine wpList_plain hgd fun K hK => ?_
  obtain ⟨v', w', hr, h2, h3, h5⟩ := run_append_ints o.type hB hown hys hu hl
  unfold Oper.wp execOp
  simp only [ho, resolve, invoke, builtin, Sem.run_bind, Sem.run_pure, Result.andThen_ok, List.map_toArray, List.map_cons, List.map_nil, hs, hx, hr]
  exact hK _ _ (h v' w' h2 h3 h5)
/-- The same, as one step of a region that draws its order. -/
theorem step_append_ints {ops : Array Oper} {o : Oper} {a : Act} {w : World} {K : Act → World → Prop} {Q : Exit → Act → World → Prop} {E : Prop} (hgd : o.guard = none) (s x : Operand)
    (ho : o.op = .call { callee := .builtin .append, args := #[s, x], argTypes := #[30, 30] }) {B base : Nat} {v u : Value} {zs ys : List Int}
    (hB : B ≤ w.heap.size) (hown : OwnI B w v zs) (hs : a.eval s = v) (hys : Ints base w u ys) (hu : ∀ n c, u = .slice none n c → c = 0) (hx : a.eval x = u) (hl : zs.length + ys.length ≤ 1000000)
    (hK : ∀ v' w', OwnI B w' v' (zs ++ ys) → w.grownBy w' v.ownBlock → (v'.ownBlock = v.ownBlock ∨ v'.ownBlock = some w.heap.size) → K (a.put o.dst v') w') :
    if Region.wanted o (yielded ops a.tmps) = true then Oper.wp Tryd.prog o a w K Q else E := by
  rw [if_pos (by simp [Region.wanted, hgd])]
  obtain ⟨v', w', hr, h2, h3, h5⟩ := run_append_ints o.type hB hown hys hu hl
  unfold Oper.wp
  simp [execOp, ho, resolve, invoke, builtin, hs, hx, hr, Result.andThen]
  exact hK v' w' h2 h3 h5
theorem OwnI.lay {B : Nat} {w X : World} {v : Value} {zs : List Int} (h : OwnI B w v zs) (hx : X.heap = w.heap) (o : Obj) : OwnI B (X.alloc o) v zs := by
  have h1 : OwnI B X v zs := by
    unfold OwnI World.ownsRow at *
    rw [hx]
    exact h
  exact World.ownsRow.alloc h1 o
theorem OwnI.below {B : Nat} {w w' : World} {v : Value} {zs : List Int} (h : OwnI B w v zs) (hb : Below w.heap.size w w') : OwnI B w' v zs := by
  refine ⟨h.1, ?_⟩
  rcases h.2 with hn | ⟨g, cap, cur, rfl, hB, hg, rest⟩
  · exact .inl hn
  · exact .inr ⟨g, cap, cur, rfl, hB, (hb.block g (heap_lt hg)).trans hg, rest⟩
theorem ownI_empty {B : Nat} {W : World} {g : Nat} (hB : B ≤ g) (h : W.heap[g]? = some (.cells #[] 3)) : OwnI B W (.slice (some ⟨g, 0, none⟩) 0 0) [] :=
  ⟨rfl, .inr ⟨g, 0, #[], rfl, hB, h, Nat.le_refl _, by simp [maxLen], rfl, rfl⟩⟩
/-- One that is typed out. -/
theorem ownI_one {B : Nat} {W : World} {g : Nat} (x : Int) (hB : B ≤ g) (h : W.heap[g]? = some (.cells #[.int .i64 x] 3)) : OwnI B W (.slice (some ⟨g, 0, none⟩) 1 1) [x] :=
  ⟨rfl, .inr ⟨g, 1, #[.int .i64 x], rfl, hB, h, Nat.le_refl _, by simp [maxLen], rfl, rfl⟩⟩
theorem int_at {X : World} {g : Nat} (x : Int) (h : X.heap[g]? = some (.cells #[.int .i64 x] 3)) : Ints 0 X (.slice (some ⟨g, 0, none⟩) 1 1) [x] := by
  refine .inr ⟨g, 0, 1, rfl, Nat.zero_le _, heap_lt h, by simp, fun k hk => ?_⟩
  have : k = 0 := by simpa using hk
  subst this
  simp only [World.cell?, h]
  simp
theorem int_lit (x : Int) (X : World) : Ints 0 (X.alloc (.cells #[.int .i64 x] 3)) (.slice (some ⟨X.heap.size, 0, none⟩) 1 1) [x] := int_at x (heap_alloc_at _ _ _ rfl)
/-- How a slice of the call's own looks. -/
theorem OwnI.form {B : Nat} {w : World} {v : Value} {zs : List Int} (h : OwnI B w v zs) : (zs = [] ∧ v = .slice none 0 0) ∨ ∃ g cap, v = .slice (some ⟨g, 0, none⟩) zs.length cap ∧ B ≤ g ∧ g < w.heap.size ∧ zs.length ≤ cap := by
  rcases h.2 with ⟨hv, h0⟩ | ⟨g, cap, cur, hv, hB, hg, hc, _⟩
  · exact .inl ⟨List.length_eq_zero_iff.1 h0, hv⟩
  · exact .inr ⟨g, cap, hv, hB, heap_lt hg, hc⟩
theorem OwnI.cap0 {B : Nat} {w : World} {v : Value} {zs : List Int} (h : OwnI B w v zs) : ∀ n c, v = .slice none n c → c = 0 := fun n c e => by
  rcases h.form with ⟨_, hv⟩ | ⟨g, cap, hv, _⟩
  · rw [hv] at e; injection e with _ _ e; exact e.symm
  · rw [hv] at e; cases e
end Go.Proofs.YtakgepdlninnhaaDoor.Lst
namespace Go.Proofs.YtakgepdlninnhaaDoor.Rf
open Go.ChangeShapes Go.WideShapes Go.ChangeAt Go.RowKit Base Lst
open Go.Proofs.YtakgepdlninnhaaDoor.Tx (Aft Aft.refl Aft.lay Aft.trans Aft.one Aft.cell BoolNew)
def OwnNew (xs : List Int) (w : World) (e : Ending) (w' : World) : Prop := ∃ v, e = .returned v ∧ OwnI w.heap.size w' v xs ∧ Aft w w'
/-- Lists of the call's own on their way. -/
def Way (w wr : World) (v : Value) (zs : List Int) : Prop := OwnI w.heap.size wr v zs ∧ Aft w wr
theorem Way.nil {w : World} : Way w w (.slice none 0 0) [] := ⟨OwnI.nil _ _, Aft.refl _⟩
theorem Way.lay {w wr : World} {v : Value} {zs : List Int} (h : Way w wr v zs) (o : Obj) : Way w (wr.alloc o) v zs := ⟨h.1.lay rfl o, h.2.lay o⟩
set_option maxRecDepth 100000 in
set_option maxHeartbeats 1000000 in
theorem rput_any {base : Nat} {v : Value} {xs : List Int} (n : Int) (w : World) (h : Ints base w v xs) (hl : xs.length ≤ 100000) : Calls Tryd.prog 54 #[v, .int .i64 n] w (OwnNew (putF n xs) w) := by
  obtain ⟨p, c, rfl, _, hc⟩ := h.open_
  have HC := Lib.hid hc
  have HE : Hid (∀ v1 w', Way w w' v1 (putF n xs) → OwnNew (putF n xs) w (.returned v1) w') := Lib.hid fun v1 w' h1 => ⟨v1, rfl, h1.1, h1.2⟩
  clear h hc
  generalize OwnNew (putF n xs) w = Post at HE ⊢
  go_enter Tryd.func54, Tryd.ntmps54
  go_wp2
  go_loopw [5, 6, 11] (fun s5 s6 s11 wr => ∃ (k : Nat) (b : Bool) (zs : List Int), s11 = .int .i64 k ∧ s6 = .bool b ∧ k ≤ xs.length ∧ zs.length ≤ 2 * k ∧ Hid (Way w wr s5 zs) ∧ Hid (zs ++ goF n b (xs.drop k) = putF n xs)) (fun _ _ s11 _ => xs.length - (intOf s11).toNat)
  case atStart => exact ⟨0, false, [], rfl, rfl, Nat.zero_le _, by simp, Lib.hid Way.nil, Lib.hid (by simp [goF])⟩
  case round =>
    obtain ⟨k, b, zs, rfl, rfl, hk, hz, HW, HG⟩ := hrel
    by_cases hlt : k < xs.length
    · obtain ⟨g', o', rfl, _, hg', hcell0⟩ := HC.out k hlt
      have hcell := HW.out.2.cell hg' hcell0
      have HD : Hid (xs.drop k = xs.getD k 0 :: xs.drop (k + 1)) := Lib.hid (drop_cons xs 0 k hlt)
      clear hcell0
      generalize xs.getD k 0 = x at hcell HD
      rcases Int.lt_trichotomy x n with hx | hx | hx
      · have h1 : ¬ n ≤ x := by omega
        have hne : (x != n) = true := by rw [bne_iff_ne]; omega
        have HN : Hid ((zs ++ [x]) ++ goF n b (xs.drop (k + 1)) = putF n xs) := Lib.hid (by
          rw [← HG.out, HD.out, List.append_assoc, List.singleton_append]
          cases b with
          | false => rw [goF_lt hx]
          | true => rw [goF_keep (by omega)])
        clear HG HD
        cases b with
        | false =>
          go_wp2_with (at_builtin; refine append_int rfl (.tmp 29) (.tmp 31) rfl HW.out.2 HW.out.1 rfl rfl (by omega) ?_; intro v2 w2 h1 h2; have H3 : Hid (Way w w2 v2 (zs ++ [x])) := Lib.hid ⟨h1, h2⟩; clear h1 h2)
          go_roundw
          case rel => exact ⟨k + 1, false, zs ++ [x], by go_num, rfl, by omega, by simp; omega, H3, HN⟩
          case measure => simp [intOf]; omega
        | true =>
          go_wp2_with (at_builtin; refine append_int rfl (.tmp 29) (.tmp 31) rfl HW.out.2 HW.out.1 rfl rfl (by omega) ?_; intro v2 w2 h1 h2; have H3 : Hid (Way w w2 v2 (zs ++ [x])) := Lib.hid ⟨h1, h2⟩; clear h1 h2)
          go_roundw
          case rel => exact ⟨k + 1, true, zs ++ [x], by go_num, rfl, by omega, by simp; omega, H3, HN⟩
          case measure => simp [intOf]; omega
      · subst hx
        cases b with
        | false =>
          have HN : Hid ((zs ++ [x]) ++ goF x true (xs.drop (k + 1)) = putF x xs) := Lib.hid (by rw [← HG.out, HD.out, List.append_assoc, List.singleton_append, goF_eq])
          clear HG HD
          go_wp2_with (at_builtin; refine append_int rfl (.tmp 22) (.tmp 24) rfl HW.out.2 HW.out.1 rfl rfl (by omega) ?_; intro v2 w2 h1 h2; have H3 : Hid (Way w w2 v2 (zs ++ [x])) := Lib.hid ⟨h1, h2⟩; clear h1 h2)
          go_roundw
          case rel => exact ⟨k + 1, true, zs ++ [x], by go_num, rfl, by omega, by simp; omega, H3, HN⟩
          case measure => simp [intOf]; omega
        | true =>
          have HN : Hid (zs ++ goF x true (xs.drop (k + 1)) = putF x xs) := Lib.hid (by rw [← HG.out, HD.out, goF_skip])
          clear HG HD
          go_wp2
          go_roundw
          case rel => exact ⟨k + 1, true, zs, by go_num, rfl, by omega, by omega, HW, HN⟩
          case measure => simp [intOf]; omega
      · have h1 : n ≤ x := by omega
        have hne : (x != n) = true := by rw [bne_iff_ne]; omega
        cases b with
        | false =>
          have HN : Hid ((zs ++ [n] ++ [x]) ++ goF n true (xs.drop (k + 1)) = putF n xs) := Lib.hid (by rw [← HG.out, HD.out, goF_gt hx]; simp)
          clear HG HD
          go_wp2_with (first
            | (at_builtin; refine append_int rfl (.tmp 22) (.tmp 24) rfl HW.out.2 HW.out.1 rfl rfl (by omega) ?_; intro v2 w2 h1 h2; have H3 : Hid (Way w w2 v2 (zs ++ [n])) := Lib.hid ⟨h1, h2⟩; clear h1 h2)
            | (at_builtin; refine append_int rfl (.tmp 29) (.tmp 31) rfl H3.out.2 H3.out.1 rfl rfl (by simp; omega) ?_; intro v3 w3 h1 h2; have H4 : Hid (Way w w3 v3 (zs ++ [n] ++ [x])) := Lib.hid ⟨h1, h2⟩; clear h1 h2))
          go_roundw
          case rel => exact ⟨k + 1, true, zs ++ [n] ++ [x], by go_num, rfl, by omega, by simp; omega, H4, HN⟩
          case measure => simp [intOf]; omega
        | true =>
          have HN : Hid ((zs ++ [x]) ++ goF n true (xs.drop (k + 1)) = putF n xs) := Lib.hid (by rw [← HG.out, HD.out, goF_keep (by omega), List.append_assoc]; rfl)
          clear HG HD
          go_wp2_with (at_builtin; refine append_int rfl (.tmp 29) (.tmp 31) rfl HW.out.2 HW.out.1 rfl rfl (by omega) ?_; intro v2 w2 h1 h2; have H3 : Hid (Way w w2 v2 (zs ++ [x])) := Lib.hid ⟨h1, h2⟩; clear h1 h2)
          go_roundw
          case rel => exact ⟨k + 1, true, zs ++ [x], by go_num, rfl, by omega, by simp; omega, H3, HN⟩
          case measure => simp [intOf]; omega
    · have hd : xs.drop k = [] := List.drop_eq_nil_of_le (by omega)
      cases b with
      | false =>
        have HN : Hid (zs ++ [n] = putF n xs) := Lib.hid (by have := HG.out; rw [hd] at this; exact this)
        clear HG hd
        go_wp2_with (at_builtin; refine append_int rfl (.tmp 36) (.tmp 38) rfl HW.out.2 HW.out.1 rfl rfl (by omega) ?_; intro v2 w2 h1 h2; have H3 : Hid (Way w w2 v2 (zs ++ [n])) := Lib.hid ⟨h1, h2⟩; clear h1 h2)
        exact HE.out _ _ (by rw [← HN.out]; exact H3.out)
      | true =>
        have HN : Hid (zs = putF n xs) := Lib.hid (by have := HG.out; rw [hd] at this; simpa [goF] using this)
        clear HG hd
        go_wp2
        exact HE.out _ _ (by rw [← HN.out]; exact HW.out)
set_option maxRecDepth 100000 in
theorem rPut_any {base : Nat} {v : Value} {xs : List Int} (n : Int) (w : World) (h : Ints base w v xs) (hl : xs.length ≤ 100000) : Calls Tryd.prog 37 #[v, .int .i64 n] w (OwnNew (putF n xs) w) := by
  have HP : Hid (Calls Tryd.prog 54 #[v, .int .i64 n] w fun e w' => ∃ v1, e = .returned v1 ∧ OwnNew (putF n xs) w (.returned v1) w') := Lib.hid ((rput_any n w h hl).mono fun e w' ⟨v1, h1, h2, h3⟩ => ⟨v1, h1, v1, rfl, h2, h3⟩)
  obtain ⟨p, c, rfl, _⟩ := h.open_
  generalize OwnNew (putF n xs) w = Post at HP ⊢
  generalize xs.length = m at *
  clear h
  go_enter Tryd.func37, Tryd.ntmps37
  go_wp2_with fail
  refine HP.out.mono ?_
  rintro e w2 ⟨v1, rfl, h1⟩
  have HR := Lib.hid h1
  clear h1 HP
  go_wp2_with fail
  exact HR.out
set_option maxHeartbeats 1000000 in
theorem in_any {base : Nat} {v : Value} {xs : List Int} (i : Int) (w : World) (h : Lst.Ints base w v xs) : Calls Tryd.prog 20 #[v, .int .i64 i] w fun e w' => e = .returned (.bool (decide (i ∈ xs))) ∧ w = w' := by
  obtain ⟨p, c, rfl, hl, hc⟩ := h.open_
  have HC := Lib.hid hc
  have HY : Hid (∀ k, k < xs.length → xs.getD k 0 = i → decide (i ∈ xs) = true) := Lib.hid fun k hk e => by
    rw [decide_eq_true_iff, ← e]
    simp [hk]
  have HN : Hid ((∀ j, j < xs.length → xs.getD j 0 ≠ i) → decide (i ∈ xs) = false) := Lib.hid fun h => by
    rw [decide_eq_false_iff_not]
    intro hm
    obtain ⟨j, hj, e⟩ := List.mem_iff_getElem.1 hm
    exact h j hj (by simpa [hj] using e)
  clear hc h
  generalize decide (i ∈ xs) = r at HY HN ⊢
  go_enter Tryd.func20, Tryd.ntmps20
  go_wp2_with fail
  go_loopw [9] (fun s9 wr => ∃ k : Nat, s9 = .int .i64 k ∧ k ≤ xs.length ∧ wr = w ∧ Hid (∀ j, j < k → xs.getD j 0 ≠ i)) (fun s9 _ => xs.length - (intOf s9).toNat)
  case atStart => exact ⟨0, rfl, Nat.zero_le _, rfl, Lib.hid fun j hj => absurd hj (by omega)⟩
  case round =>
    obtain ⟨k, rfl, hk, rfl, HK⟩ := hrel
    by_cases hlt : k < xs.length
    · obtain ⟨g', o', rfl, _, _, hcell⟩ := HC.out k hlt
      have HYK := Lib.hid (HY.out k hlt)
      have HKK : Hid (xs.getD k 0 ≠ i → ∀ j, j < k + 1 → xs.getD j 0 ≠ i) := Lib.hid fun h j hj => by
        by_cases e : j = k
        · rw [e]; exact h
        · exact HK.out j (by omega)
      generalize xs.getD k 0 = x at hcell HYK HKK
      by_cases hx : x = i
      · have hr := HYK.out hx
        subst hx
        have HR := Lib.hid hr
        clear HKK HK HYK hr
        go_wp2
        go_ret
        exact ⟨ret_bool HR.out.symm, rfl⟩
      · have HK2 := Lib.hid (HKK.out hx)
        have hd : (x == i) = false := by rw [beq_eq_false_iff_ne]; exact hx
        clear HKK HK HYK
        go_wp2_with fail
        go_roundw
        case rel => exact ⟨k + 1, by go_num, by omega, trivial, HK2⟩
        case measure => simp [intOf]; omega
    · have hr := HN.out (fun j hj => HK.out j (by omega))
      have HR := Lib.hid hr
      clear HK HY HN hr
      go_wp2
      go_ret
      exact ⟨ret_bool HR.out.symm, rfl⟩
end Go.Proofs.YtakgepdlninnhaaDoor.Rf
