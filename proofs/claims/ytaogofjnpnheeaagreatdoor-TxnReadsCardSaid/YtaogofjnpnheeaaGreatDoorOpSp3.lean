/-
  Contract of the program's reading of operations: split. Not a statement of the seat.
-/
import Derived.Test.YtaogofjnpnheeaaGreatDoorOpSp2
namespace Go.Proofs.YtaogofjnpnheeaaGreatDoor.Op
open Go.ChangeShapes Go.WideShapes Go.ChangeAt Go.RowKit Base Nu F Go.Lib Lst
theorem ownT_two {B : Nat} {W : World} {g : Nat} (x y : ByteArray) (hB : B ≤ g) (h : W.heap[g]? = some (.cells #[.string x, .string y] 9)) : OwnT B W (.slice (some ⟨g, 0, none⟩) 2 2) [x, y] :=
  ⟨rfl, .inr ⟨g, 2, #[.string x, .string y], rfl, hB, h, Nat.le_refl _, by simp [maxLen], rfl, rfl⟩⟩
theorem heap_two (w : World) (o o' : Obj) (q : Nat) : (((w.alloc o).alloc o').drewN q).heap[w.heap.size]? = some o := by
  rw [World.heap_drewN]
  exact heap_alloc_lt _ _ _ _ (heap_alloc_at _ _ _ rfl)
theorem heap_one (w : World) (o : Obj) (q : Nat) : ((w.alloc o).drewN q).heap[w.heap.size]? = some o := by
  rw [World.heap_drewN]
  exact heap_alloc_at _ _ _ rfl
theorem heap_snd (w : World) (o o' : Obj) (q g : Nat) (hg : g = w.heap.size + 1) : (((w.alloc o).alloc o').drewN q).heap[g]? = some o' := by
  rw [World.heap_drewN]
  exact heap_alloc_at _ _ _ (by simp [hg])
theorem all_one (a : List UInt8) : ([toB a].all (fun p => dgs p.data.toList)) = dgs a := by simp [toB_list]
theorem all_two (a b : List UInt8) : ([toB a, toB b].all (fun p => dgs p.data.toList)) = (dgs a && dgs b) := by simp [toB_list]
theorem all_three (a b c : List UInt8) : ([toB a, toB b, toB c].all (fun p => dgs p.data.toList)) = (dgs a && dgs b && dgs c) := by simp [toB_list, Bool.and_assoc]
theorem cont_own {B : Nat} {w W : World} {v : Value} {ps : List ByteArray} (h : OwnT B W v ps) (hb : Below w.heap.size w W) (hs : ∀ p ∈ ps, p.size ≤ 9223372036854775807) (hl : ps.length ≤ 3) {r : Bool} (hr : ps.all (fun p => dgs p.data.toList) = r) :
    Calls Tryz.prog 44 #[v, .func (.func 45) #[] #[]] W fun e w' => e = .returned (.bool (!r)) ∧ Below w.heap.size w w' ∧ OwnT B w' v ps := by
  have h1 := contF_any W v ps (h.ints (by omega)) hs (by omega)
  rw [hr] at h1
  exact h1.mono fun e w' ⟨he, hb'⟩ => ⟨he, hb.trans (hb'.mono hb.size), h.below hb'⟩
theorem sizes_of {n : Nat} {ls : List (List UInt8)} (h : ∀ l ∈ ls, l.length ≤ n) : ∀ p ∈ ls.map toB, p.size ≤ n := fun p hp => by
  obtain ⟨l, hl, rfl⟩ := List.mem_map.1 hp
  rw [toB_size]; exact h l hl
set_option maxHeartbeats 2000000 in
set_option maxRecDepth 100000 in
theorem split_w (s : ByteArray) (r : List UInt8) (hl : s.data.toList = 119 :: r) (hs : s.size ≤ 9223372036854775807) (w : World) :
    Calls Tryz.prog 33 #[.string s] w (SplPost s.data.toList w) := by
  have C1 := Lib.hid (fun w => cutP_any s 119 w)
  rw [(pre_yes hl).1, (pre_yes hl).2] at C1
  have hr : r.length ≤ 9223372036854775807 := by
    have : s.data.toList.length = s.size := by simp
    rw [hl] at this; simp at this; omega
  have CF : Hid (∀ (W : World) (g : Nat), W.heap[g]? = some (.cells #[.string (toB r)] 9) → w.heap.size ≤ g → Below w.heap.size w W → Calls Tryz.prog 44 #[.slice (some ⟨g, 0, none⟩) 1 1, .func (.func 45) #[] #[]] W fun e w' => e = .returned (.bool (!dgs r)) ∧ Below w.heap.size w w' ∧ OwnT w.heap.size w' (.slice (some ⟨g, 0, none⟩) 1 1) [toB r]) := Lib.hid fun W g hg hgw hb =>
    cont_own (ownT_one (toB r) hgw hg) hb (sizes_of (ls := [r]) (fun l h => by simp at h; subst h; exact hr)) (by simp) (all_one r)
  have HP : Hid (dgs r = true → parts s.data.toList = [r]) := Lib.hid fun h => by rw [hl]; unfold parts; dsimp only; rw [if_pos rfl, if_pos h]
  have HF : Hid (dgs r = false → parts s.data.toList = []) := Lib.hid fun h => by rw [hl]; unfold parts; dsimp only; rw [if_pos rfl, if_neg (by rw [h]; decide)]
  clear hl hr
  cases hd : dgs r
  · have hp := Lib.hid (HF.out hd)
    rw [hd] at CF
    clear HP HF hd
    go_enter Tryz.func33, Tryz.ntmps33
    go_wp2_with fail
    refine (C1.out _).mono ?_
    rintro e w1 ⟨rfl, rfl⟩
    go_wp2_with (go_at_call 44; refine (CF.out _ w.heap.size (heap_alloc_at _ _ _ rfl) (Nat.le_refl _) (by go_grown)).mono ?_; rintro e w2 ⟨rfl, hb, ho⟩; have HB := Lib.hid hb; have HO := Lib.hid ho; clear hb ho)
    go_ret
    exact ⟨_, rfl, by rw [hp.out]; exact OwnT.nil _ _, HB.out⟩
  · have hp := Lib.hid (HP.out hd)
    rw [hd] at CF
    clear HP HF hd
    go_enter Tryz.func33, Tryz.ntmps33
    go_wp2_with fail
    refine (C1.out _).mono ?_
    rintro e w1 ⟨rfl, rfl⟩
    go_wp2_with (go_at_call 44; refine (CF.out _ w.heap.size (heap_alloc_at _ _ _ rfl) (Nat.le_refl _) (by go_grown)).mono ?_; rintro e w2 ⟨rfl, hb, ho⟩; have HB := Lib.hid hb; have HO := Lib.hid ho; clear hb ho)
    go_ret
    exact ⟨_, rfl, by rw [hp.out]; exact HO.out, HB.out⟩
set_option maxHeartbeats 2000000 in
set_option maxRecDepth 100000 in
theorem split_no (s : ByteArray) (h1 : s.data.toList.head? ≠ some 119) (h2 : s.data.toList.head? ≠ some 114) (w : World) :
    Calls Tryz.prog 33 #[.string s] w (SplPost s.data.toList w) := by
  have C1 := Lib.hid (fun w => cutP_any s 119 w)
  have C2 := Lib.hid (fun w => cutP_any s 114 w)
  rw [pre_no h1] at C1
  rw [pre_no h2] at C2
  have hp : Hid (parts s.data.toList = []) := Lib.hid (by
    cases hl : s.data.toList with
    | nil => rfl
    | cons c r =>
      rw [hl] at h1 h2
      unfold parts
      dsimp only
      rw [if_neg (fun e => h1 (by rw [e]; rfl)), if_neg (fun e => h2 (by rw [e]; rfl))])
  generalize toB (trimPrefix s.data.toList [119]) = x at C1
  generalize toB (trimPrefix s.data.toList [114]) = y at C2
  have CF : Hid (∀ (W : World), Below w.heap.size w W → Calls Tryz.prog 44 #[.slice none 0 0, .func (.func 45) #[] #[]] W fun e w' => e = .returned (.bool (!true)) ∧ Below w.heap.size w w' ∧ OwnT w.heap.size w' (.slice none 0 0) []) := Lib.hid fun W hb =>
    cont_own (OwnT.nil _ _) hb (fun p hp => by cases hp) (by simp) rfl
  clear h1 h2
  go_enter Tryz.func33, Tryz.ntmps33
  go_wp2_with fail
  refine (C1.out _).mono ?_
  rintro e w1 ⟨rfl, rfl⟩
  go_wp2_with fail
  refine (C2.out _).mono ?_
  rintro e w1 ⟨rfl, rfl⟩
  go_wp2_with (go_at_call 44; refine (CF.out _ (Below.refl _ _)).mono ?_; rintro e w2 ⟨rfl, hb, ho⟩; have HB := Lib.hid hb; have HO := Lib.hid ho; clear hb ho)
  go_ret
  exact ⟨_, rfl, by rw [hp.out]; exact HO.out, HB.out⟩
set_option maxHeartbeats 4000000 in
set_option maxRecDepth 100000 in
theorem split_r (s : ByteArray) (r : List UInt8) (hl : s.data.toList = 114 :: r) (hs : s.size ≤ 9223372036854775807) (w : World) :
    Calls Tryz.prog 33 #[.string s] w (SplPost s.data.toList w) := by
  have C1 := Lib.hid (fun w => cutP_any s 119 w)
  have C2 := Lib.hid (fun w => cutP_any s 114 w)
  rw [pre_no (by rw [hl]; simp)] at C1
  rw [(pre_yes hl).1, (pre_yes hl).2] at C2
  have hr : r.length ≤ 9223372036854775807 := by
    have : s.data.toList.length = s.size := by simp
    rw [hl] at this; simp at this; omega
  have C3 := Lib.hid (fun w => cut_any (toB r) 64 (by rw [toB_size]; exact hr) w)
  rw [toB_list] at C3
  have l1 := cutA_len r 64
  have l2 := cutB_len r 64
  have l3 := cutA_len (cutB 64 r) 46
  have l4 := cutB_len (cutB 64 r) 46
  have C4 := Lib.hid (fun w => cut_any (toB (cutB 64 r)) 46 (by rw [toB_size]; omega) w)
  rw [toB_list] at C4
  have HP : Hid (parts s.data.toList = if cutF 46 (cutB 64 r) then (if dgs (cutA 64 r) && dgs (cutA 46 (cutB 64 r)) && dgs (cutB 46 (cutB 64 r)) then [cutA 64 r, cutA 46 (cutB 64 r), cutB 46 (cutB 64 r)] else [])
       else (if dgs (cutA 64 r) && dgs (cutA 46 (cutB 64 r)) then [cutA 64 r, cutA 46 (cutB 64 r)] else [])) := Lib.hid (by rw [hl]; unfold parts; dsimp only; rw [if_neg (by decide), if_pos rfl])
  generalize toB (trimPrefix s.data.toList [119]) = x at C1
  generalize cutF 46 (cutB 64 r) = dot at C4 HP
  generalize cutF 64 r = at_ at C3
  generalize cutB 46 (cutB 64 r) = n at C4 HP l4
  generalize cutA 46 (cutB 64 r) = t at C4 HP l3
  generalize cutB 64 r = v at C3 C4 l2 l3 l4
  generalize cutA 64 r = k at C3 HP l1
  have CF2 : Hid (∀ (W : World) (g : Nat), W.heap[g]? = some (.cells #[.string (toB k), .string (toB t)] 9) → w.heap.size ≤ g → Below w.heap.size w W → Calls Tryz.prog 44 #[.slice (some ⟨g, 0, none⟩) 2 2, .func (.func 45) #[] #[]] W fun e w' => e = .returned (.bool (!(dgs k && dgs t))) ∧ Below w.heap.size w w' ∧ OwnT w.heap.size w' (.slice (some ⟨g, 0, none⟩) 2 2) [toB k, toB t]) := Lib.hid fun W g hg hgw hb =>
    cont_own (ownT_two (toB k) (toB t) hgw hg) hb (sizes_of (ls := [k, t]) (fun l h => by simp at h; rcases h with rfl | rfl <;> omega)) (by simp) (all_two k t)
  have CF3 : Hid (∀ (W : World) (u : Value), OwnT w.heap.size W u [toB k, toB t, toB n] → Below w.heap.size w W → Calls Tryz.prog 44 #[u, .func (.func 45) #[] #[]] W fun e w' => e = .returned (.bool (!(dgs k && dgs t && dgs n))) ∧ Below w.heap.size w w' ∧ OwnT w.heap.size w' u [toB k, toB t, toB n]) := Lib.hid fun W u ho hb =>
    cont_own ho hb (sizes_of (ls := [k, t, n]) (fun l h => by simp at h; rcases h with rfl | rfl | rfl <;> omega)) (by simp) (all_three k t n)
  clear hl hr l1 l2 l3 l4 hs
  cases dot
  · generalize (dgs k && dgs t) = res at CF2 HP
    cases res
    all_goals
      go_enter Tryz.func33, Tryz.ntmps33
      go_wp2_with fail
      refine (C1.out _).mono ?_
      rintro e w1 ⟨rfl, rfl⟩
      go_wp2_with fail
      refine (C2.out _).mono ?_
      rintro e w1 ⟨rfl, rfl⟩
      go_wp2_with fail
      refine (C3.out _).mono ?_
      rintro e w1 ⟨rfl, q1, rfl⟩
      go_wp2_with fail
      refine (C4.out _).mono ?_
      rintro e w1 ⟨rfl, q2, rfl⟩
      go_wp2_with (go_at_call 44; refine (CF2.out _ w.heap.size (heap_one _ _ _) (Nat.le_refl _) (below_drewN ((Below.refl _ _).alloc (Nat.le_refl _) _) _)).mono ?_; rintro e w2 ⟨rfl, hb, ho⟩; have HB := Lib.hid hb; have HO := Lib.hid ho; clear hb ho)
      go_ret
      exact ⟨_, rfl, by rw [HP.out]; first | exact HO.out | exact OwnT.nil _ _, HB.out⟩
  · generalize (dgs k && dgs t && dgs n) = res at CF3 HP
    cases res
    all_goals
      go_enter Tryz.func33, Tryz.ntmps33
      go_wp2_with fail
      refine (C1.out _).mono ?_
      rintro e w1 ⟨rfl, rfl⟩
      go_wp2_with fail
      refine (C2.out _).mono ?_
      rintro e w1 ⟨rfl, rfl⟩
      go_wp2_with fail
      refine (C3.out _).mono ?_
      rintro e w1 ⟨rfl, q1, rfl⟩
      go_wp2_with fail
      refine (C4.out _).mono ?_
      rintro e w1 ⟨rfl, q2, rfl⟩
      go_wp2_with (first
        | (at_builtin; refine append_txts rfl (.tmp 44) (.tmp 46) rfl (B := w.heap.size) (by simp; omega) (ownT_two (toB k) (toB t) (Nat.le_refl _) (by first | exact heap_two _ _ _ _ | exact heap_alloc_lt _ _ _ _ (heap_alloc_at _ _ _ (by simp)))) rfl (txt_at (toB n) (by first | exact heap_snd _ _ _ _ _ (by simp) | exact heap_alloc_at _ _ _ (by simp))) (fun n c e => by cases e) rfl (by simp) ?_; intro v2 w2 ho hg _; have HO2 := Lib.hid ho; have HB2 := Lib.hid (appT_below (w0 := w) (by first | exact below_drewN (((Below.refl _ _).alloc (Nat.le_refl _) _).alloc (by simp) _) _ | exact ((below_drewN (Below.refl _ _) _).alloc (by simp) _).alloc (by simp) _) (ownT_two (toB k) (toB t) (Nat.le_refl _) (by first | exact heap_two _ _ _ _ | exact heap_alloc_lt _ _ _ _ (heap_alloc_at _ _ _ (by simp)))) hg); clear ho hg)
        | (go_at_call 44; refine (CF3.out _ _ HO2.out HB2.out).mono ?_; rintro e w3 ⟨rfl, hb, ho⟩; have HB := Lib.hid hb; have HO := Lib.hid ho; clear hb ho))
      go_ret
      exact ⟨_, rfl, by rw [HP.out]; first | exact HO.out | exact OwnT.nil _ _, HB.out⟩
theorem split_any (s : ByteArray) (hs : s.size ≤ 9223372036854775807) (w : World) : Calls Tryz.prog 33 #[.string s] w (SplPost s.data.toList w) := by
  by_cases h1 : s.data.toList.head? = some 119
  · obtain ⟨r, hr⟩ := List.head?_eq_some_iff.1 h1
    exact split_w s r hr hs w
  by_cases h2 : s.data.toList.head? = some 114
  · obtain ⟨r, hr⟩ := List.head?_eq_some_iff.1 h2
    exact split_r s r hr hs w
  exact split_no s h1 h2 w
end Go.Proofs.YtaogofjnpnheeaaGreatDoor.Op
