/-
  A contract of the document's own Put on lists of edges. Not a statement of the seat.
-/
import Derived.Test.YtepfgaiidmbklaaPkList
namespace Go.Proofs.Ytepfgaiidmbklaa.Pk
open Go.ChangeShapes Go.WideShapes Go.ChangeAt Go.RowKit Base Go.Shelf Go.Lib Go.Sort
/-- An edge's box. -/
abbrev boxE (e : E) : Obj := .cells #[.int .i64 e.1, .int .i64 e.2.1, .int .i64 e.2.2.1, .int .i64 e.2.2.2] 23
/-- What holds between the rounds: the new one lies in its box, behind it the list that grows. -/
def PS (w : World) (e : E) (wr : World) (v : Value) (zs : List E) : Prop := Below (w.alloc (boxE e)).heap.size (w.alloc (boxE e)) wr ∧ OwnE (w.alloc (boxE e)).heap.size wr v zs
section
variable {w wr w1 : World} {e x : E} {v : Value} {zs : List E}
theorem PS.all (h : PS w e wr v zs) : Below w.heap.size w wr := ((Below.refl _ w).alloc (Nat.le_refl _) (boxE e)).trans (h.1.mono (by simp))
theorem PS.box (h : PS w e wr v zs) : wr.heap[w.heap.size]? = some (boxE e) := (h.1.block _ (by simp)).trans (heap_alloc_at _ _ _ rfl)
theorem PS.step (h : PS w e wr v zs) (hb : Below wr.heap.size wr w1) : PS w e w1 v zs := ⟨h.1.trans (hb.mono h.1.size), h.2.below hb⟩
theorem PS.alloc (h : PS w e wr v zs) (o : Obj) : PS w e (wr.alloc o) v zs := h.step ((Below.refl _ wr).alloc (Nat.le_refl _) o)
theorem PS.start (w : World) (e : E) : PS w e (w.alloc (boxE e)) (.slice none 0 0) [] := ⟨Below.refl _ _, OwnE.nil _ _⟩
theorem PS.own_ne (h : PS w e wr v zs) : v.ownBlock ≠ some wr.heap.size := fun hh => by have := (World.ownsRow.lt h.2 _ hh).2; omega
theorem PS.own_box (h : PS w e wr v zs) : v.ownBlock ≠ some w.heap.size := fun hh => by have := (World.ownsRow.lt h.2 _ hh).1; simp at this; omega
end
theorem fold_stepE {e : E} {xs : List E} {k : Nat} {s : Bool × List E} (hk : k < xs.length) (h : (xs.take k).foldl (stepE e) (false, []) = s) : (xs.take (k + 1)).foldl (stepE e) (false, []) = stepE e s (xs.getD k zE) := by
  rw [List.take_succ_eq_append_getElem hk, List.foldl_append, h]
  simp [hk]
theorem fold_lenE {e : E} {xs : List E} {k : Nat} {d : Bool} {zs : List E} (h : (xs.take k).foldl (stepE e) (false, []) = (d, zs)) : zs.length ≤ 2 * xs.length := by
  have h1 := stepE_len e (xs.take k) (false, [])
  rw [h, List.length_take] at h1
  simp at h1
  omega
set_option maxHeartbeats 8000000 in
set_option maxRecDepth 100000 in
theorem putE_any {v : Value} {xs : List E} (e : E) (w : World) (hx : Eds w v xs) (hl : xs.length ≤ 400000) :
    Calls Try.prog 35 #[v, .agg #[.int .i64 e.1, .int .i64 e.2.1, .int .i64 e.2.2.1, .int .i64 e.2.2.2]] w (EdsNew (put1 e xs) w) := by
  have HR1 : Hid (∀ zs, xs.foldl (stepE e) (false, []) = (true, zs) → put1 e xs = zs) := Lib.hid fun zs h => by
    have := step_false e xs []
    rw [h] at this
    simpa using this.symm
  have HR2 : Hid (∀ zs, xs.foldl (stepE e) (false, []) = (false, zs) → put1 e xs = zs ++ [e]) := Lib.hid fun zs h => by
    have := step_false e xs []
    rw [h] at this
    simpa using this.symm
  generalize put1 e xs = R at HR1 HR2 ⊢
  obtain ⟨p, c, rfl, _, hc⟩ := hx.open_
  have HC := Lib.hid hc
  have HS : Hid (∀ k s, k < xs.length → (xs.take k).foldl (stepE e) (false, []) = s → (xs.take (k + 1)).foldl (stepE e) (false, []) = stepE e s (xs.getD k zE)) := Lib.hid fun k s hk h => fold_stepE hk h
  have HF0 : Hid ((xs.take xs.length).foldl (stepE e) (false, []) = xs.foldl (stepE e) (false, [])) := Lib.hid (by rw [List.take_length])
  have HP0 := Lib.hid (PS.start w e)
  clear hc hx
  go_enter Try.func35, Try.ntmps35
  go_wp2_with fail
  go_loopw [5, 6, 11] (fun s5 s6 s11 wr => ∃ (k : Nat) (d : Bool) (zs : List E), s11 = .int .i64 k ∧ s6 = .bool d ∧ k ≤ xs.length ∧ Hid ((xs.take k).foldl (stepE e) (false, []) = (d, zs)) ∧ Hid (PS w e wr s5 zs)) (fun _ _ s11 _ => xs.length - (intOf s11).toNat)
  case atStart => exact ⟨0, false, [], rfl, rfl, Nat.zero_le _, Lib.hid rfl, HP0⟩
  case round =>
    obtain ⟨k, d, zs, rfl, rfl, hk, HK, HP⟩ := hrel
    have hfl := fold_lenE HK.out
    by_cases hlt : k < xs.length
    · obtain ⟨g', o', rfl, hg', c0, c1, c2, c3⟩ := HC.out k hlt
      have c0 := (HP.out.all.cell (p := ⟨g', o' + k * 4, none⟩) hg').trans c0
      have c1 := (HP.out.all.cell (p := ⟨g', o' + k * 4 + 1, none⟩) hg').trans c1
      have c2 := (HP.out.all.cell (p := ⟨g', o' + k * 4 + 2, none⟩) hg').trans c2
      have c3 := (HP.out.all.cell (p := ⟨g', o' + k * 4 + 3, none⟩) hg').trans c3
      have HE := Lib.hid (HS.out k _ hlt HK.out)
      clear HK hg'
      generalize xs.getD k zE = x at c0 c1 c2 c3 HE
      have P1 := Lib.hid (HP.out.alloc (boxE x))
      have X1 : Hid ((wr.alloc (boxE x)).heap[wr.heap.size]? = some (boxE x)) := Lib.hid (heap_alloc_at _ _ _ rfl)
      have hz := heap_lt HP.out.box
      obtain ⟨e0, e1, e2, e3⟩ := cells4 HP.out.box
      have hq := neE x e
      by_cases he : x = e
      · rw [decide_eq_true he] at hq
        cases d
        · by_cases hlt2 : ltE x e = true
          · exact absurd hlt2 (by rw [he, lt_irr]; decide)
          · have hlf : ltE x e = false := by simpa using hlt2
            have HE2 := Lib.hid (HE.out.trans (show stepE e (false, zs) x = (true, zs ++ [e]) by simp [stepE, he, lt_irr]))
            have HLS := Lib.hid (fun wx => less_ref x e wx)
            rw [hlf] at HLS
            clear hlt2 hlf HE he
            go_wp2_with fail
            refine (HLS.out _).mono ?_
            rintro r w2 ⟨rfl, hb⟩
            have P2 := Lib.hid (P1.out.step hb)
            have X2 := Lib.hid (keep_block hb X1.out)
            have hz2 := heap_lt P2.out.box
            have hx2 := heap_lt X2.out
            clear c0 c1 c2 c3 e0 e1 e2 e3 hb
            obtain ⟨e0, e1, e2, e3⟩ := cells4 P2.out.box
            obtain ⟨x0, x1, x2, x3⟩ := cells4 X2.out
            clear HLS
            go_wp2_with (at_builtin; refine append_edge rfl (.tmp 23) (.tmp 25) rfl P2.out.1 P2.out.2 rfl rfl rfl (by omega) ?_; intro v' w3 ho hb hk3; have P3 : Hid (PS w e w3 v' (zs ++ [e])) := Lib.hid ⟨hb, ho⟩; have X3 := Lib.hid (hk3 _ _ X2.out (fun hh => by have := (World.ownsRow.lt HP.out.2 _ hh).2; omega)); clear ho hb hk3 e0 e1 e2 e3 x0 x1 x2 x3; obtain ⟨e0, e1, e2, e3⟩ := cells4 P3.out.box; obtain ⟨x0, x1, x2, x3⟩ := cells4 X3.out)
            go_roundw
            case rel => exact ⟨k + 1, true, _, by go_num, rfl, by omega, HE2, P3⟩
            case measure => simp [intOf]; omega
        · have HE2 := Lib.hid (HE.out.trans (show stepE e (true, zs) x = (true, zs) by simp [stepE, he]))
          clear HE he
          go_wp2_with fail
          go_roundw
          case rel => exact ⟨k + 1, true, _, by go_num, rfl, by omega, HE2, P1⟩
          case measure => simp [intOf]; omega
      · rw [decide_eq_false he] at hq
        cases d
        · have HLS := Lib.hid (fun wx => less_ref x e wx)
          by_cases hlt2 : ltE x e = true
          · have HE2 := Lib.hid (HE.out.trans (show stepE e (false, zs) x = (false, zs ++ [x]) by simp [stepE, hlt2, he]))
            rw [hlt2] at HLS
            clear hlt2 HE he
            go_wp2_with fail
            refine (HLS.out _).mono ?_
            rintro r w2 ⟨rfl, hb⟩
            have P2 := Lib.hid (P1.out.step hb)
            have X2 := Lib.hid (keep_block hb X1.out)
            have hz2 := heap_lt P2.out.box
            have hx2 := heap_lt X2.out
            clear c0 c1 c2 c3 e0 e1 e2 e3 hb
            obtain ⟨e0, e1, e2, e3⟩ := cells4 P2.out.box
            obtain ⟨x0, x1, x2, x3⟩ := cells4 X2.out
            clear HLS
            go_wp2_with (at_builtin; refine append_edge rfl (.tmp 30) (.tmp 32) rfl P2.out.1 P2.out.2 rfl rfl rfl (by omega) ?_; intro v' w3 ho hb hk3)
            have P3 : Hid (PS w e w3 v' (zs ++ [x])) := Lib.hid ⟨hb, ho⟩
            clear ho hb hk3
            go_wp2_with fail
            go_roundw
            case rel => exact ⟨k + 1, false, _, by go_num, rfl, by omega, HE2, P3⟩
            case measure => simp [intOf]; omega
          · have hlf : ltE x e = false := by simpa using hlt2
            have HE2 := Lib.hid (HE.out.trans (show stepE e (false, zs) x = (true, zs ++ [e] ++ [x]) by simp [stepE, hlf, he]))
            rw [hlf] at HLS
            clear hlt2 hlf HE he
            go_wp2_with fail
            refine (HLS.out _).mono ?_
            rintro r w2 ⟨rfl, hb⟩
            have P2 := Lib.hid (P1.out.step hb)
            have X2 := Lib.hid (keep_block hb X1.out)
            have hz2 := heap_lt P2.out.box
            have hx2 := heap_lt X2.out
            clear c0 c1 c2 c3 e0 e1 e2 e3 hb
            obtain ⟨e0, e1, e2, e3⟩ := cells4 P2.out.box
            obtain ⟨x0, x1, x2, x3⟩ := cells4 X2.out
            clear HLS
            go_wp2_with (first | (at_builtin; refine append_edge rfl (.tmp 23) (.tmp 25) rfl P2.out.1 P2.out.2 rfl rfl rfl (by omega) ?_; intro v' w3 ho hb hk3; have P3 : Hid (PS w e w3 v' (zs ++ [e])) := Lib.hid ⟨hb, ho⟩; have X3 := Lib.hid (hk3 _ _ X2.out (fun hh => by have := (World.ownsRow.lt HP.out.2 _ hh).2; omega)); clear ho hb hk3 e0 e1 e2 e3 x0 x1 x2 x3; obtain ⟨e0, e1, e2, e3⟩ := cells4 P3.out.box; obtain ⟨x0, x1, x2, x3⟩ := cells4 X3.out) | (at_builtin; refine append_edge rfl (.tmp 30) (.tmp 32) rfl P3.out.1 P3.out.2 rfl rfl rfl (by simp; omega) ?_; intro v'' w4 ho hb hk4; have P4 : Hid (PS w e w4 v'' (zs ++ [e] ++ [x])) := Lib.hid ⟨hb, ho⟩; clear ho hb hk4))
            go_roundw
            case rel => exact ⟨k + 1, true, _, by go_num, rfl, by omega, HE2, P4⟩
            case measure => simp [intOf]; omega
        · have HE2 := Lib.hid (HE.out.trans (show stepE e (true, zs) x = (true, zs ++ [x]) by simp [stepE, he]))
          clear HE he
          go_wp2_with (at_builtin; refine append_edge rfl (.tmp 30) (.tmp 32) rfl P1.out.1 P1.out.2 rfl rfl (by simp) (by omega) ?_; intro v' w3 ho hb hk3)
          have P3 : Hid (PS w e w3 v' (zs ++ [x])) := Lib.hid ⟨hb, ho⟩
          clear ho hb hk3
          go_wp2_with fail
          go_roundw
          case rel => exact ⟨k + 1, true, _, by go_num, rfl, by omega, HE2, P3⟩
          case measure => simp [intOf]; omega
    · have e' : k = xs.length := by omega
      subst e'
      rw [HF0.out] at HK
      obtain ⟨e0, e1, e2, e3⟩ := cells4 HP.out.box
      clear HS HC HF0
      cases d
      · have hr := HR2.out _ HK.out
        subst hr
        clear HR1 HR2 HK
        go_wp2_with (at_builtin; refine append_edge rfl (.tmp 37) (.tmp 39) rfl HP.out.1 HP.out.2 rfl rfl rfl (by omega) ?_; intro v' w3 ho hb hk3)
        have P3 : Hid (PS w e w3 v' (zs ++ [e])) := Lib.hid ⟨hb, ho⟩
        have HO : Hid (Eds w3 v' (zs ++ [e])) := Lib.hid (ho.eds (by simp; omega))
        clear ho hb hk3 e0 e1 e2 e3
        go_wp2
        go_ret
        exact ⟨⟨_, rfl, HO.out⟩, P3.out.all⟩
      · have hr := HR1.out _ HK.out
        subst hr
        clear HR1 HR2 HK
        have HO := Lib.hid (HP.out.2.eds (by omega))
        go_wp2
        go_ret
        exact ⟨⟨_, rfl, HO.out⟩, HP.out.all⟩
end Go.Proofs.Ytepfgaiidmbklaa.Pk
