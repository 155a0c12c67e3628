/-
  Components: contract of newFinder. Not a statement of the seat.
-/
import Derived.Test.YtimgdkafennohaaGreatDoorScN
import Derived.Deep.RegionHeld3
namespace Go.Proofs.YtimgdkafennohaaGreatDoor.Sc
open Go.ChangeShapes Go.WideShapes Go.ChangeAt Go.RowKit Base F Bits
set_option maxHeartbeats 16000000 in
set_option maxRecDepth 100000 in
theorem newFinder_any (n : Nat) (hn : n ≤ 4096) (F : Nat) (lb : Array Value) (w : World) : Calls Tryz.prog 23 #[.int .i64 (n : Int), .func (.func F) #[] lb] w (NewF n (fnV F lb) w) := by
  have hmk : ∀ wx, (Instr.makeSlice 32 (.int .i64 (n : Int)) (.int .i64 (n : Int))).run Tryz.prog wx = .ok (.slice (some ⟨wx.heap.size, 0, none⟩) n n) (wx.alloc (.cells (madeCells #[.int .i64 0] n) 3)) := fun wx =>
    run_make_row' (P := Tryz.prog) 32 3 (.int .i64 0) 8 Tryz.underlying32 Lst.int_info rfl .i64 .i64 n (by omega) (by omega) wx
  have HN : Hid (∀ wx : World, Calls Tryz.prog 29 #[.int .i64 (n : Int)] wx fun e w' => e = .returned (.pointer (some ⟨wx.heap.size + 1, 0, none⟩)) ∧ RowAt w' (wx.heap.size + 1) wx.heap.size (rowLen' (n : Int)) 0 ∧ Below wx.heap.size wx w') := Lib.hid (fun wx : World => new_any (n : Int) wx)
  have HS : Hid (∀ wx : World, Calls Tryz.prog 41 #[.int .i64 (n : Int)] wx fun e w' => e = .returned (.pointer (some ⟨wx.heap.size, 0, none⟩)) ∧ SAt w' wx.heap.size none (roomOf (n : Int)) [] ∧ Below wx.heap.size wx w') := Lib.hid (fun wx : World => fsnew (n : Int) wx)
  have HKEY := Lib.hid (fun u => @newF_key w u n (fnV F lb) hn)
  generalize NewF n (fnV F lb) w = Post at HKEY ⊢
  unfold fnV at HKEY
  have hni : (n : Int) ≤ 4096 := by omega
  clear hn
  go_enter Tryz.func23, Tryz.ntmps23
  go_wp2_with fail
  obtain ⟨U0, hU0⟩ : ∃ X, X = w.drew := ⟨_, rfl⟩
  have HB : Hid (Below w.heap.size w U0) := Lib.hid (by rw [hU0]; exact below_drewN (Below.refl _ _) 1)
  refine wp_region_held_drew (S := fun _ => True) (by kernel_rfl) True.intro (fun hHeld0 => ?_)
  rw [← hU0]
  clear hU0
  refine wpAnyH_take (i := 0) (v := ?_) rfl (by kernel_rfl) (by kernel_rfl) (by kernel_rfl) (fun _ _ _ h => h) (Or.inl ⟨by rfl, ?ynf1⟩) (by assumption) ?qnf1
  case ynf1 => (intro wz hSw; (try dsimp only at hSw); go_simp <;> with_reducible rfl)
  try simp only [Act.put, List.getElem_toArray, List.getElem_cons_zero, List.setIfInBounds_toArray, List.set_cons_zero, List.set_cons_succ]
  refine wpAnyH_take (i := 1) (v := ?_) rfl (by kernel_rfl) (by kernel_rfl) (by kernel_rfl) (fun _ _ _ h => h) (Or.inl ⟨by rfl, ?ynf2⟩) (by assumption) ?qnf2
  case ynf2 => (intro wz hSw; (try dsimp only at hSw); go_simp <;> with_reducible rfl)
  try simp only [Act.put, List.getElem_toArray, List.getElem_cons_zero, List.getElem_cons_succ, List.setIfInBounds_toArray, List.set_cons_zero, List.set_cons_succ]
  refine wpAnyH_take (i := 3) (v := ?_) rfl (by kernel_rfl) (by kernel_rfl) (by kernel_rfl) (fun _ _ _ h => h) (Or.inl ⟨by rfl, ?ynf3⟩) (by assumption) ?qnf3
  case ynf3 => (intro wz hSw; (try dsimp only at hSw); go_simp <;> with_reducible rfl)
  try simp only [Act.put, List.getElem_toArray, List.getElem_cons_zero, List.getElem_cons_succ, List.setIfInBounds_toArray, List.set_cons_zero, List.set_cons_succ]
  refine wpAnyH_take (i := 5) (v := ?_) rfl (by kernel_rfl) (by kernel_rfl) (by kernel_rfl) (fun _ _ _ h => h) (Or.inl ⟨by rfl, ?ynf4⟩) (by assumption) ?qnf4
  case ynf4 => (intro wz hSw; (try dsimp only at hSw); go_simp <;> with_reducible rfl)
  try simp only [Act.put, List.getElem_toArray, List.getElem_cons_zero, List.getElem_cons_succ, List.setIfInBounds_toArray, List.set_cons_zero, List.set_cons_succ]
  refine wpAnyH_take (i := 7) (v := ?_) rfl (by kernel_rfl) (by kernel_rfl) (by kernel_rfl) (fun _ _ _ h => h) (Or.inl ⟨by rfl, ?ynf5⟩) (by assumption) ?qnf5
  case ynf5 => (intro wz hSw; (try dsimp only at hSw); go_simp <;> with_reducible rfl)
  try simp only [Act.put, List.getElem_toArray, List.getElem_cons_zero, List.getElem_cons_succ, List.setIfInBounds_toArray, List.set_cons_zero, List.set_cons_succ]
  refine wpAnyH_take (i := 9) (v := ?_) rfl (by kernel_rfl) (by kernel_rfl) (by kernel_rfl) (fun _ _ _ h => h) (Or.inl ⟨by rfl, ?ynf6⟩) (by assumption) ?qnf6
  case ynf6 => (intro wz hSw; (try dsimp only at hSw); go_simp <;> with_reducible rfl)
  try simp only [Act.put, List.getElem_toArray, List.getElem_cons_zero, List.getElem_cons_succ, List.setIfInBounds_toArray, List.set_cons_zero, List.set_cons_succ]
  refine wpAnyH_ready (rs := [2, 4, 6, 10]) (by kernel_rfl) (by simp) ?_
  refine AllReadyH.cons rfl (fun K hK => ?bnf7) ?cnf7
  case bnf7 =>
    go_simp
    obtain ⟨g2, hg⟩ : ∃ g, g = U0.heap.size := ⟨_, rfl⟩
    obtain ⟨u7, hu⟩ : ∃ X, X = U0.alloc (.cells (madeCells #[.int .i64 0] n) 3) := ⟨_, rfl⟩
    have hb : Below U0.heap.size U0 u7 := by rw [hu]; exact (Below.refl _ _).alloc (Nat.le_refl _) _
    rw [← hg, ← hu]
    have F2 := Lib.hid (CF.new HB.out.size hg hu)
    replace HB := Lib.hid (hbt HB.out hb)
    clear hb hg hu
    refine hK.out _ _ (True.intro) (fun hHeld7 => ?_)
    clear hK K
    try simp only [Act.put, List.getElem_toArray, List.getElem_cons_zero, List.getElem_cons_succ, List.setIfInBounds_toArray, List.set_cons_zero, List.set_cons_succ]
    refine wpAnyH_ready (rs := [4, 6, 10]) (by kernel_rfl) (by simp) ?_
    refine AllReadyH.cons rfl (fun K hK => ?bnf8) ?cnf8
    case bnf8 =>
      go_simp
      obtain ⟨g4, hg⟩ : ∃ g, g = u7.heap.size := ⟨_, rfl⟩
      obtain ⟨u8, hu⟩ : ∃ X, X = u7.alloc (.cells (madeCells #[.int .i64 0] n) 3) := ⟨_, rfl⟩
      have hb : Below u7.heap.size u7 u8 := by rw [hu]; exact (Below.refl _ _).alloc (Nat.le_refl _) _
      have D2_4 : g2 ≠ g4 := by have := F2.out.lt; omega
      rw [← hg, ← hu]
      have F4 := Lib.hid (CF.new HB.out.size hg hu)
      replace F2 := Lib.hid (F2.out.below hb)
      replace HB := Lib.hid (hbt HB.out hb)
      clear hb hg hu
      refine hK.out _ _ (True.intro) (fun hHeld8 => ?_)
      clear hK K
      try simp only [Act.put, List.getElem_toArray, List.getElem_cons_zero, List.getElem_cons_succ, List.setIfInBounds_toArray, List.set_cons_zero, List.set_cons_succ]
      refine wpAnyH_ready (rs := [6, 10]) (by kernel_rfl) (by simp) ?_
      refine AllReadyH.cons rfl (fun K hK => ?bnf9) ?cnf9
      case bnf9 =>
        go_simp
        refine (HS.out _).mono ?_
        rintro e u9 ⟨rfl, hs, hb⟩
        obtain ⟨g6, hg⟩ : ∃ g, g = u8.heap.size := ⟨_, rfl⟩
        rw [← hg] at hs ⊢
        have F6 := Lib.hid (SF.new HB.out.size hg hs)
        replace F2 := Lib.hid (F2.out.below hb)
        replace F4 := Lib.hid (F4.out.below hb)
        replace HB := Lib.hid (hbt HB.out hb)
        clear hb hg hs
        refine hK.out _ _ (True.intro) (fun hHeld9 => ?_)
        clear hK K
        try simp only [Act.put, List.getElem_toArray, List.getElem_cons_zero, List.getElem_cons_succ, List.setIfInBounds_toArray, List.set_cons_zero, List.set_cons_succ]
        refine wpAnyH_ready (rs := [8, 10]) (by kernel_rfl) (by simp) ?_
        refine AllReadyH.cons rfl (fun K hK => ?bnf10) ?cnf10
        case bnf10 =>
          go_simp
          refine (HN.out _).mono ?_
          rintro e u10 ⟨rfl, hs, hb⟩
          obtain ⟨g8, hg⟩ : ∃ g, g = u9.heap.size := ⟨_, rfl⟩
          rw [← hg] at hs ⊢
          have F8 := Lib.hid (RF_.new HB.out.size hg hs)
          replace F2 := Lib.hid (F2.out.below hb)
          replace F4 := Lib.hid (F4.out.below hb)
          replace F6 := Lib.hid (F6.out.below hb)
          replace HB := Lib.hid (hbt HB.out hb)
          clear hb hg hs
          refine hK.out _ _ (True.intro) (fun hHeld10 => ?_)
          clear hK K
          try simp only [Act.put, List.getElem_toArray, List.getElem_cons_zero, List.getElem_cons_succ, List.setIfInBounds_toArray, List.set_cons_zero, List.set_cons_succ]
          refine wpAnyH_ready (rs := [10]) (by kernel_rfl) (by simp) ?_
          refine AllReadyH.cons rfl (fun K hK => ?_) AllReadyH.nil
          go_simp
          obtain ⟨g10, hg⟩ : ∃ g, g = u10.heap.size := ⟨_, rfl⟩
          obtain ⟨u11, hu⟩ : ∃ X, X = u10.alloc (.cells (madeCells #[.int .i64 0] n) 3) := ⟨_, rfl⟩
          have hb : Below u10.heap.size u10 u11 := by rw [hu]; exact (Below.refl _ _).alloc (Nat.le_refl _) _
          have D2_10 : g2 ≠ g10 := by have := F2.out.lt; omega
          have D4_10 : g4 ≠ g10 := by have := F4.out.lt; omega
          rw [← hg, ← hu]
          have F10 := Lib.hid (CF.new HB.out.size hg hu)
          replace F2 := Lib.hid (F2.out.below hb)
          replace F4 := Lib.hid (F4.out.below hb)
          replace F6 := Lib.hid (F6.out.below hb)
          replace F8 := Lib.hid (F8.out.below hb)
          replace HB := Lib.hid (hbt HB.out hb)
          clear hb hg hu
          refine hK.out _ _ (True.intro) (fun hHeld11 => ?_)
          clear hK K
          try simp only [Act.put, List.getElem_toArray, List.getElem_cons_zero, List.getElem_cons_succ, List.setIfInBounds_toArray, List.set_cons_zero, List.set_cons_succ]
          refine wpAnyH_take (i := 11) (v := ?_) rfl (by kernel_rfl) (by kernel_rfl) (by kernel_rfl) (fun _ _ _ h => h) (Or.inl ⟨by rfl, ?ynf12⟩) (by assumption) ?qnf12
          case ynf12 => (intro wz hSw; (try dsimp only at hSw); go_simp <;> with_reducible rfl)
          try simp only [Act.put, List.getElem_toArray, List.getElem_cons_zero, List.getElem_cons_succ, List.setIfInBounds_toArray, List.set_cons_zero, List.set_cons_succ]
          refine wpAnyH_ready (rs := [12]) (by kernel_rfl) (by simp) ?_
          refine AllReadyH.cons rfl (fun K hK => ?_) AllReadyH.nil
          go_simp
          refine hK.out _ _ (True.intro) (fun hHeld13 => ?_)
          clear hK K
          try simp only [Act.put, List.getElem_toArray, List.getElem_cons_zero, List.getElem_cons_succ, List.setIfInBounds_toArray, List.set_cons_zero, List.set_cons_succ]
          refine wpAnyH_take (i := 13) (v := ?_) rfl (by kernel_rfl) (by kernel_rfl) (by kernel_rfl) (fun _ _ _ h => h) (Or.inl ⟨by rfl, ?ynf14⟩) (by assumption) ?qnf14
          case ynf14 => (intro wz hSw; (try dsimp only at hSw); go_simp <;> with_reducible rfl)
          try simp only [Act.put, List.getElem_toArray, List.getElem_cons_zero, List.getElem_cons_succ, List.setIfInBounds_toArray, List.set_cons_zero, List.set_cons_succ]
          refine wpAnyH_done (by kernel_rfl) ?_ _
          go_wp2
          exact HKEY.out _ _ _ _ _ _ _ HB.out F2.out F4.out F10.out F6.out F8.out D2_4 D2_10 D4_10
        refine AllReadyH.cons rfl (fun K hK => ?bnf15) ?cnf15
        case bnf15 =>
          go_simp
          obtain ⟨g10, hg⟩ : ∃ g, g = u9.heap.size := ⟨_, rfl⟩
          obtain ⟨u15, hu⟩ : ∃ X, X = u9.alloc (.cells (madeCells #[.int .i64 0] n) 3) := ⟨_, rfl⟩
          have hb : Below u9.heap.size u9 u15 := by rw [hu]; exact (Below.refl _ _).alloc (Nat.le_refl _) _
          have D2_10 : g2 ≠ g10 := by have := F2.out.lt; omega
          have D4_10 : g4 ≠ g10 := by have := F4.out.lt; omega
          rw [← hg, ← hu]
          have F10 := Lib.hid (CF.new HB.out.size hg hu)
          replace F2 := Lib.hid (F2.out.below hb)
          replace F4 := Lib.hid (F4.out.below hb)
          replace F6 := Lib.hid (F6.out.below hb)
          replace HB := Lib.hid (hbt HB.out hb)
          clear hb hg hu
          refine hK.out _ _ (True.intro) (fun hHeld15 => ?_)
          clear hK K
          try simp only [Act.put, List.getElem_toArray, List.getElem_cons_zero, List.getElem_cons_succ, List.setIfInBounds_toArray, List.set_cons_zero, List.set_cons_succ]
          refine wpAnyH_ready (rs := [8]) (by kernel_rfl) (by simp) ?_
          refine AllReadyH.cons rfl (fun K hK => ?_) AllReadyH.nil
          go_simp
          refine (HN.out _).mono ?_
          rintro e u16 ⟨rfl, hs, hb⟩
          obtain ⟨g8, hg⟩ : ∃ g, g = u15.heap.size := ⟨_, rfl⟩
          rw [← hg] at hs ⊢
          have F8 := Lib.hid (RF_.new HB.out.size hg hs)
          replace F2 := Lib.hid (F2.out.below hb)
          replace F4 := Lib.hid (F4.out.below hb)
          replace F6 := Lib.hid (F6.out.below hb)
          replace F10 := Lib.hid (F10.out.below hb)
          replace HB := Lib.hid (hbt HB.out hb)
          clear hb hg hs
          refine hK.out _ _ (True.intro) (fun hHeld16 => ?_)
          clear hK K
          try simp only [Act.put, List.getElem_toArray, List.getElem_cons_zero, List.getElem_cons_succ, List.setIfInBounds_toArray, List.set_cons_zero, List.set_cons_succ]
          refine wpAnyH_take (i := 11) (v := ?_) rfl (by kernel_rfl) (by kernel_rfl) (by kernel_rfl) (fun _ _ _ h => h) (Or.inl ⟨by rfl, ?ynf17⟩) (by assumption) ?qnf17
          case ynf17 => (intro wz hSw; (try dsimp only at hSw); go_simp <;> with_reducible rfl)
          try simp only [Act.put, List.getElem_toArray, List.getElem_cons_zero, List.getElem_cons_succ, List.setIfInBounds_toArray, List.set_cons_zero, List.set_cons_succ]
          refine wpAnyH_ready (rs := [12]) (by kernel_rfl) (by simp) ?_
          refine AllReadyH.cons rfl (fun K hK => ?_) AllReadyH.nil
          go_simp
          refine hK.out _ _ (True.intro) (fun hHeld18 => ?_)
          clear hK K
          try simp only [Act.put, List.getElem_toArray, List.getElem_cons_zero, List.getElem_cons_succ, List.setIfInBounds_toArray, List.set_cons_zero, List.set_cons_succ]
          refine wpAnyH_take (i := 13) (v := ?_) rfl (by kernel_rfl) (by kernel_rfl) (by kernel_rfl) (fun _ _ _ h => h) (Or.inl ⟨by rfl, ?ynf19⟩) (by assumption) ?qnf19
          case ynf19 => (intro wz hSw; (try dsimp only at hSw); go_simp <;> with_reducible rfl)
          try simp only [Act.put, List.getElem_toArray, List.getElem_cons_zero, List.getElem_cons_succ, List.setIfInBounds_toArray, List.set_cons_zero, List.set_cons_succ]
          refine wpAnyH_done (by kernel_rfl) ?_ _
          go_wp2
          exact HKEY.out _ _ _ _ _ _ _ HB.out F2.out F4.out F10.out F6.out F8.out D2_4 D2_10 D4_10
        exact AllReadyH.nil
      refine AllReadyH.cons rfl (fun K hK => ?bnf20) ?cnf20
      case bnf20 =>
        go_simp
        obtain ⟨g10, hg⟩ : ∃ g, g = u8.heap.size := ⟨_, rfl⟩
        obtain ⟨u20, hu⟩ : ∃ X, X = u8.alloc (.cells (madeCells #[.int .i64 0] n) 3) := ⟨_, rfl⟩
        have hb : Below u8.heap.size u8 u20 := by rw [hu]; exact (Below.refl _ _).alloc (Nat.le_refl _) _
        have D2_10 : g2 ≠ g10 := by have := F2.out.lt; omega
        have D4_10 : g4 ≠ g10 := by have := F4.out.lt; omega
        rw [← hg, ← hu]
        have F10 := Lib.hid (CF.new HB.out.size hg hu)
        replace F2 := Lib.hid (F2.out.below hb)
        replace F4 := Lib.hid (F4.out.below hb)
        replace HB := Lib.hid (hbt HB.out hb)
        clear hb hg hu
        refine hK.out _ _ (True.intro) (fun hHeld20 => ?_)
        clear hK K
        try simp only [Act.put, List.getElem_toArray, List.getElem_cons_zero, List.getElem_cons_succ, List.setIfInBounds_toArray, List.set_cons_zero, List.set_cons_succ]
        refine wpAnyH_ready (rs := [6]) (by kernel_rfl) (by simp) ?_
        refine AllReadyH.cons rfl (fun K hK => ?_) AllReadyH.nil
        go_simp
        refine (HS.out _).mono ?_
        rintro e u21 ⟨rfl, hs, hb⟩
        obtain ⟨g6, hg⟩ : ∃ g, g = u20.heap.size := ⟨_, rfl⟩
        rw [← hg] at hs ⊢
        have F6 := Lib.hid (SF.new HB.out.size hg hs)
        replace F2 := Lib.hid (F2.out.below hb)
        replace F4 := Lib.hid (F4.out.below hb)
        replace F10 := Lib.hid (F10.out.below hb)
        replace HB := Lib.hid (hbt HB.out hb)
        clear hb hg hs
        refine hK.out _ _ (True.intro) (fun hHeld21 => ?_)
        clear hK K
        try simp only [Act.put, List.getElem_toArray, List.getElem_cons_zero, List.getElem_cons_succ, List.setIfInBounds_toArray, List.set_cons_zero, List.set_cons_succ]
        refine wpAnyH_ready (rs := [8]) (by kernel_rfl) (by simp) ?_
        refine AllReadyH.cons rfl (fun K hK => ?_) AllReadyH.nil
        go_simp
        refine (HN.out _).mono ?_
        rintro e u22 ⟨rfl, hs, hb⟩
        obtain ⟨g8, hg⟩ : ∃ g, g = u21.heap.size := ⟨_, rfl⟩
        rw [← hg] at hs ⊢
        have F8 := Lib.hid (RF_.new HB.out.size hg hs)
        replace F2 := Lib.hid (F2.out.below hb)
        replace F4 := Lib.hid (F4.out.below hb)
        replace F6 := Lib.hid (F6.out.below hb)
        replace F10 := Lib.hid (F10.out.below hb)
        replace HB := Lib.hid (hbt HB.out hb)
        clear hb hg hs
        refine hK.out _ _ (True.intro) (fun hHeld22 => ?_)
        clear hK K
        try simp only [Act.put, List.getElem_toArray, List.getElem_cons_zero, List.getElem_cons_succ, List.setIfInBounds_toArray, List.set_cons_zero, List.set_cons_succ]
        refine wpAnyH_take (i := 11) (v := ?_) rfl (by kernel_rfl) (by kernel_rfl) (by kernel_rfl) (fun _ _ _ h => h) (Or.inl ⟨by rfl, ?ynf23⟩) (by assumption) ?qnf23
        case ynf23 => (intro wz hSw; (try dsimp only at hSw); go_simp <;> with_reducible rfl)
        try simp only [Act.put, List.getElem_toArray, List.getElem_cons_zero, List.getElem_cons_succ, List.setIfInBounds_toArray, List.set_cons_zero, List.set_cons_succ]
        refine wpAnyH_ready (rs := [12]) (by kernel_rfl) (by simp) ?_
        refine AllReadyH.cons rfl (fun K hK => ?_) AllReadyH.nil
        go_simp
        refine hK.out _ _ (True.intro) (fun hHeld24 => ?_)
        clear hK K
        try simp only [Act.put, List.getElem_toArray, List.getElem_cons_zero, List.getElem_cons_succ, List.setIfInBounds_toArray, List.set_cons_zero, List.set_cons_succ]
        refine wpAnyH_take (i := 13) (v := ?_) rfl (by kernel_rfl) (by kernel_rfl) (by kernel_rfl) (fun _ _ _ h => h) (Or.inl ⟨by rfl, ?ynf25⟩) (by assumption) ?qnf25
        case ynf25 => (intro wz hSw; (try dsimp only at hSw); go_simp <;> with_reducible rfl)
        try simp only [Act.put, List.getElem_toArray, List.getElem_cons_zero, List.getElem_cons_succ, List.setIfInBounds_toArray, List.set_cons_zero, List.set_cons_succ]
        refine wpAnyH_done (by kernel_rfl) ?_ _
        go_wp2
        exact HKEY.out _ _ _ _ _ _ _ HB.out F2.out F4.out F10.out F6.out F8.out D2_4 D2_10 D4_10
      exact AllReadyH.nil
    refine AllReadyH.cons rfl (fun K hK => ?bnf26) ?cnf26
    case bnf26 =>
      go_simp
      refine (HS.out _).mono ?_
      rintro e u26 ⟨rfl, hs, hb⟩
      obtain ⟨g6, hg⟩ : ∃ g, g = u7.heap.size := ⟨_, rfl⟩
      rw [← hg] at hs ⊢
      have F6 := Lib.hid (SF.new HB.out.size hg hs)
      replace F2 := Lib.hid (F2.out.below hb)
      replace HB := Lib.hid (hbt HB.out hb)
      clear hb hg hs
      refine hK.out _ _ (True.intro) (fun hHeld26 => ?_)
      clear hK K
      try simp only [Act.put, List.getElem_toArray, List.getElem_cons_zero, List.getElem_cons_succ, List.setIfInBounds_toArray, List.set_cons_zero, List.set_cons_succ]
      refine wpAnyH_ready (rs := [4, 8, 10]) (by kernel_rfl) (by simp) ?_
      refine AllReadyH.cons rfl (fun K hK => ?bnf27) ?cnf27
      case bnf27 =>
        go_simp
        obtain ⟨g4, hg⟩ : ∃ g, g = u26.heap.size := ⟨_, rfl⟩
        obtain ⟨u27, hu⟩ : ∃ X, X = u26.alloc (.cells (madeCells #[.int .i64 0] n) 3) := ⟨_, rfl⟩
        have hb : Below u26.heap.size u26 u27 := by rw [hu]; exact (Below.refl _ _).alloc (Nat.le_refl _) _
        have D2_4 : g2 ≠ g4 := by have := F2.out.lt; omega
        rw [← hg, ← hu]
        have F4 := Lib.hid (CF.new HB.out.size hg hu)
        replace F2 := Lib.hid (F2.out.below hb)
        replace F6 := Lib.hid (F6.out.below hb)
        replace HB := Lib.hid (hbt HB.out hb)
        clear hb hg hu
        refine hK.out _ _ (True.intro) (fun hHeld27 => ?_)
        clear hK K
        try simp only [Act.put, List.getElem_toArray, List.getElem_cons_zero, List.getElem_cons_succ, List.setIfInBounds_toArray, List.set_cons_zero, List.set_cons_succ]
        refine wpAnyH_ready (rs := [8, 10]) (by kernel_rfl) (by simp) ?_
        refine AllReadyH.cons rfl (fun K hK => ?bnf28) ?cnf28
        case bnf28 =>
          go_simp
          refine (HN.out _).mono ?_
          rintro e u28 ⟨rfl, hs, hb⟩
          obtain ⟨g8, hg⟩ : ∃ g, g = u27.heap.size := ⟨_, rfl⟩
          rw [← hg] at hs ⊢
          have F8 := Lib.hid (RF_.new HB.out.size hg hs)
          replace F2 := Lib.hid (F2.out.below hb)
          replace F4 := Lib.hid (F4.out.below hb)
          replace F6 := Lib.hid (F6.out.below hb)
          replace HB := Lib.hid (hbt HB.out hb)
          clear hb hg hs
          refine hK.out _ _ (True.intro) (fun hHeld28 => ?_)
          clear hK K
          try simp only [Act.put, List.getElem_toArray, List.getElem_cons_zero, List.getElem_cons_succ, List.setIfInBounds_toArray, List.set_cons_zero, List.set_cons_succ]
          refine wpAnyH_ready (rs := [10]) (by kernel_rfl) (by simp) ?_
          refine AllReadyH.cons rfl (fun K hK => ?_) AllReadyH.nil
          go_simp
          obtain ⟨g10, hg⟩ : ∃ g, g = u28.heap.size := ⟨_, rfl⟩
          obtain ⟨u29, hu⟩ : ∃ X, X = u28.alloc (.cells (madeCells #[.int .i64 0] n) 3) := ⟨_, rfl⟩
          have hb : Below u28.heap.size u28 u29 := by rw [hu]; exact (Below.refl _ _).alloc (Nat.le_refl _) _
          have D2_10 : g2 ≠ g10 := by have := F2.out.lt; omega
          have D4_10 : g4 ≠ g10 := by have := F4.out.lt; omega
          rw [← hg, ← hu]
          have F10 := Lib.hid (CF.new HB.out.size hg hu)
          replace F2 := Lib.hid (F2.out.below hb)
          replace F4 := Lib.hid (F4.out.below hb)
          replace F6 := Lib.hid (F6.out.below hb)
          replace F8 := Lib.hid (F8.out.below hb)
          replace HB := Lib.hid (hbt HB.out hb)
          clear hb hg hu
          refine hK.out _ _ (True.intro) (fun hHeld29 => ?_)
          clear hK K
          try simp only [Act.put, List.getElem_toArray, List.getElem_cons_zero, List.getElem_cons_succ, List.setIfInBounds_toArray, List.set_cons_zero, List.set_cons_succ]
          refine wpAnyH_take (i := 11) (v := ?_) rfl (by kernel_rfl) (by kernel_rfl) (by kernel_rfl) (fun _ _ _ h => h) (Or.inl ⟨by rfl, ?ynf30⟩) (by assumption) ?qnf30
          case ynf30 => (intro wz hSw; (try dsimp only at hSw); go_simp <;> with_reducible rfl)
          try simp only [Act.put, List.getElem_toArray, List.getElem_cons_zero, List.getElem_cons_succ, List.setIfInBounds_toArray, List.set_cons_zero, List.set_cons_succ]
          refine wpAnyH_ready (rs := [12]) (by kernel_rfl) (by simp) ?_
          refine AllReadyH.cons rfl (fun K hK => ?_) AllReadyH.nil
          go_simp
          refine hK.out _ _ (True.intro) (fun hHeld31 => ?_)
          clear hK K
          try simp only [Act.put, List.getElem_toArray, List.getElem_cons_zero, List.getElem_cons_succ, List.setIfInBounds_toArray, List.set_cons_zero, List.set_cons_succ]
          refine wpAnyH_take (i := 13) (v := ?_) rfl (by kernel_rfl) (by kernel_rfl) (by kernel_rfl) (fun _ _ _ h => h) (Or.inl ⟨by rfl, ?ynf32⟩) (by assumption) ?qnf32
          case ynf32 => (intro wz hSw; (try dsimp only at hSw); go_simp <;> with_reducible rfl)
          try simp only [Act.put, List.getElem_toArray, List.getElem_cons_zero, List.getElem_cons_succ, List.setIfInBounds_toArray, List.set_cons_zero, List.set_cons_succ]
          refine wpAnyH_done (by kernel_rfl) ?_ _
          go_wp2
          exact HKEY.out _ _ _ _ _ _ _ HB.out F2.out F4.out F10.out F6.out F8.out D2_4 D2_10 D4_10
        refine AllReadyH.cons rfl (fun K hK => ?bnf33) ?cnf33
        case bnf33 =>
          go_simp
          obtain ⟨g10, hg⟩ : ∃ g, g = u27.heap.size := ⟨_, rfl⟩
          obtain ⟨u33, hu⟩ : ∃ X, X = u27.alloc (.cells (madeCells #[.int .i64 0] n) 3) := ⟨_, rfl⟩
          have hb : Below u27.heap.size u27 u33 := by rw [hu]; exact (Below.refl _ _).alloc (Nat.le_refl _) _
          have D2_10 : g2 ≠ g10 := by have := F2.out.lt; omega
          have D4_10 : g4 ≠ g10 := by have := F4.out.lt; omega
          rw [← hg, ← hu]
          have F10 := Lib.hid (CF.new HB.out.size hg hu)
          replace F2 := Lib.hid (F2.out.below hb)
          replace F4 := Lib.hid (F4.out.below hb)
          replace F6 := Lib.hid (F6.out.below hb)
          replace HB := Lib.hid (hbt HB.out hb)
          clear hb hg hu
          refine hK.out _ _ (True.intro) (fun hHeld33 => ?_)
          clear hK K
          try simp only [Act.put, List.getElem_toArray, List.getElem_cons_zero, List.getElem_cons_succ, List.setIfInBounds_toArray, List.set_cons_zero, List.set_cons_succ]
          refine wpAnyH_ready (rs := [8]) (by kernel_rfl) (by simp) ?_
          refine AllReadyH.cons rfl (fun K hK => ?_) AllReadyH.nil
          go_simp
          refine (HN.out _).mono ?_
          rintro e u34 ⟨rfl, hs, hb⟩
          obtain ⟨g8, hg⟩ : ∃ g, g = u33.heap.size := ⟨_, rfl⟩
          rw [← hg] at hs ⊢
          have F8 := Lib.hid (RF_.new HB.out.size hg hs)
          replace F2 := Lib.hid (F2.out.below hb)
          replace F4 := Lib.hid (F4.out.below hb)
          replace F6 := Lib.hid (F6.out.below hb)
          replace F10 := Lib.hid (F10.out.below hb)
          replace HB := Lib.hid (hbt HB.out hb)
          clear hb hg hs
          refine hK.out _ _ (True.intro) (fun hHeld34 => ?_)
          clear hK K
          try simp only [Act.put, List.getElem_toArray, List.getElem_cons_zero, List.getElem_cons_succ, List.setIfInBounds_toArray, List.set_cons_zero, List.set_cons_succ]
          refine wpAnyH_take (i := 11) (v := ?_) rfl (by kernel_rfl) (by kernel_rfl) (by kernel_rfl) (fun _ _ _ h => h) (Or.inl ⟨by rfl, ?ynf35⟩) (by assumption) ?qnf35
          case ynf35 => (intro wz hSw; (try dsimp only at hSw); go_simp <;> with_reducible rfl)
          try simp only [Act.put, List.getElem_toArray, List.getElem_cons_zero, List.getElem_cons_succ, List.setIfInBounds_toArray, List.set_cons_zero, List.set_cons_succ]
          refine wpAnyH_ready (rs := [12]) (by kernel_rfl) (by simp) ?_
          refine AllReadyH.cons rfl (fun K hK => ?_) AllReadyH.nil
          go_simp
          refine hK.out _ _ (True.intro) (fun hHeld36 => ?_)
          clear hK K
          try simp only [Act.put, List.getElem_toArray, List.getElem_cons_zero, List.getElem_cons_succ, List.setIfInBounds_toArray, List.set_cons_zero, List.set_cons_succ]
          refine wpAnyH_take (i := 13) (v := ?_) rfl (by kernel_rfl) (by kernel_rfl) (by kernel_rfl) (fun _ _ _ h => h) (Or.inl ⟨by rfl, ?ynf37⟩) (by assumption) ?qnf37
          case ynf37 => (intro wz hSw; (try dsimp only at hSw); go_simp <;> with_reducible rfl)
          try simp only [Act.put, List.getElem_toArray, List.getElem_cons_zero, List.getElem_cons_succ, List.setIfInBounds_toArray, List.set_cons_zero, List.set_cons_succ]
          refine wpAnyH_done (by kernel_rfl) ?_ _
          go_wp2
          exact HKEY.out _ _ _ _ _ _ _ HB.out F2.out F4.out F10.out F6.out F8.out D2_4 D2_10 D4_10
        exact AllReadyH.nil
      refine AllReadyH.cons rfl (fun K hK => ?bnf38) ?cnf38
      case bnf38 =>
        go_simp
        refine (HN.out _).mono ?_
        rintro e u38 ⟨rfl, hs, hb⟩
        obtain ⟨g8, hg⟩ : ∃ g, g = u26.heap.size := ⟨_, rfl⟩
        rw [← hg] at hs ⊢
        have F8 := Lib.hid (RF_.new HB.out.size hg hs)
        replace F2 := Lib.hid (F2.out.below hb)
        replace F6 := Lib.hid (F6.out.below hb)
        replace HB := Lib.hid (hbt HB.out hb)
        clear hb hg hs
        refine hK.out _ _ (True.intro) (fun hHeld38 => ?_)
        clear hK K
        try simp only [Act.put, List.getElem_toArray, List.getElem_cons_zero, List.getElem_cons_succ, List.setIfInBounds_toArray, List.set_cons_zero, List.set_cons_succ]
        refine wpAnyH_ready (rs := [4, 10]) (by kernel_rfl) (by simp) ?_
        refine AllReadyH.cons rfl (fun K hK => ?bnf39) ?cnf39
        case bnf39 =>
          go_simp
          obtain ⟨g4, hg⟩ : ∃ g, g = u38.heap.size := ⟨_, rfl⟩
          obtain ⟨u39, hu⟩ : ∃ X, X = u38.alloc (.cells (madeCells #[.int .i64 0] n) 3) := ⟨_, rfl⟩
          have hb : Below u38.heap.size u38 u39 := by rw [hu]; exact (Below.refl _ _).alloc (Nat.le_refl _) _
          have D2_4 : g2 ≠ g4 := by have := F2.out.lt; omega
          rw [← hg, ← hu]
          have F4 := Lib.hid (CF.new HB.out.size hg hu)
          replace F2 := Lib.hid (F2.out.below hb)
          replace F6 := Lib.hid (F6.out.below hb)
          replace F8 := Lib.hid (F8.out.below hb)
          replace HB := Lib.hid (hbt HB.out hb)
          clear hb hg hu
          refine hK.out _ _ (True.intro) (fun hHeld39 => ?_)
          clear hK K
          try simp only [Act.put, List.getElem_toArray, List.getElem_cons_zero, List.getElem_cons_succ, List.setIfInBounds_toArray, List.set_cons_zero, List.set_cons_succ]
          refine wpAnyH_ready (rs := [10]) (by kernel_rfl) (by simp) ?_
          refine AllReadyH.cons rfl (fun K hK => ?_) AllReadyH.nil
          go_simp
          obtain ⟨g10, hg⟩ : ∃ g, g = u39.heap.size := ⟨_, rfl⟩
          obtain ⟨u40, hu⟩ : ∃ X, X = u39.alloc (.cells (madeCells #[.int .i64 0] n) 3) := ⟨_, rfl⟩
          have hb : Below u39.heap.size u39 u40 := by rw [hu]; exact (Below.refl _ _).alloc (Nat.le_refl _) _
          have D2_10 : g2 ≠ g10 := by have := F2.out.lt; omega
          have D4_10 : g4 ≠ g10 := by have := F4.out.lt; omega
          rw [← hg, ← hu]
          have F10 := Lib.hid (CF.new HB.out.size hg hu)
          replace F2 := Lib.hid (F2.out.below hb)
          replace F4 := Lib.hid (F4.out.below hb)
          replace F6 := Lib.hid (F6.out.below hb)
          replace F8 := Lib.hid (F8.out.below hb)
          replace HB := Lib.hid (hbt HB.out hb)
          clear hb hg hu
          refine hK.out _ _ (True.intro) (fun hHeld40 => ?_)
          clear hK K
          try simp only [Act.put, List.getElem_toArray, List.getElem_cons_zero, List.getElem_cons_succ, List.setIfInBounds_toArray, List.set_cons_zero, List.set_cons_succ]
          refine wpAnyH_take (i := 11) (v := ?_) rfl (by kernel_rfl) (by kernel_rfl) (by kernel_rfl) (fun _ _ _ h => h) (Or.inl ⟨by rfl, ?ynf41⟩) (by assumption) ?qnf41
          case ynf41 => (intro wz hSw; (try dsimp only at hSw); go_simp <;> with_reducible rfl)
          try simp only [Act.put, List.getElem_toArray, List.getElem_cons_zero, List.getElem_cons_succ, List.setIfInBounds_toArray, List.set_cons_zero, List.set_cons_succ]
          refine wpAnyH_ready (rs := [12]) (by kernel_rfl) (by simp) ?_
          refine AllReadyH.cons rfl (fun K hK => ?_) AllReadyH.nil
          go_simp
          refine hK.out _ _ (True.intro) (fun hHeld42 => ?_)
          clear hK K
          try simp only [Act.put, List.getElem_toArray, List.getElem_cons_zero, List.getElem_cons_succ, List.setIfInBounds_toArray, List.set_cons_zero, List.set_cons_succ]
          refine wpAnyH_take (i := 13) (v := ?_) rfl (by kernel_rfl) (by kernel_rfl) (by kernel_rfl) (fun _ _ _ h => h) (Or.inl ⟨by rfl, ?ynf43⟩) (by assumption) ?qnf43
          case ynf43 => (intro wz hSw; (try dsimp only at hSw); go_simp <;> with_reducible rfl)
          try simp only [Act.put, List.getElem_toArray, List.getElem_cons_zero, List.getElem_cons_succ, List.setIfInBounds_toArray, List.set_cons_zero, List.set_cons_succ]
          refine wpAnyH_done (by kernel_rfl) ?_ _
          go_wp2
          exact HKEY.out _ _ _ _ _ _ _ HB.out F2.out F4.out F10.out F6.out F8.out D2_4 D2_10 D4_10
        refine AllReadyH.cons rfl (fun K hK => ?bnf44) ?cnf44
        case bnf44 =>
          go_simp
          obtain ⟨g10, hg⟩ : ∃ g, g = u38.heap.size := ⟨_, rfl⟩
          obtain ⟨u44, hu⟩ : ∃ X, X = u38.alloc (.cells (madeCells #[.int .i64 0] n) 3) := ⟨_, rfl⟩
          have hb : Below u38.heap.size u38 u44 := by rw [hu]; exact (Below.refl _ _).alloc (Nat.le_refl _) _
          have D2_10 : g2 ≠ g10 := by have := F2.out.lt; omega
          rw [← hg, ← hu]
          have F10 := Lib.hid (CF.new HB.out.size hg hu)
          replace F2 := Lib.hid (F2.out.below hb)
          replace F6 := Lib.hid (F6.out.below hb)
          replace F8 := Lib.hid (F8.out.below hb)
          replace HB := Lib.hid (hbt HB.out hb)
          clear hb hg hu
          refine hK.out _ _ (True.intro) (fun hHeld44 => ?_)
          clear hK K
          try simp only [Act.put, List.getElem_toArray, List.getElem_cons_zero, List.getElem_cons_succ, List.setIfInBounds_toArray, List.set_cons_zero, List.set_cons_succ]
          refine wpAnyH_ready (rs := [4]) (by kernel_rfl) (by simp) ?_
          refine AllReadyH.cons rfl (fun K hK => ?_) AllReadyH.nil
          go_simp
          obtain ⟨g4, hg⟩ : ∃ g, g = u44.heap.size := ⟨_, rfl⟩
          obtain ⟨u45, hu⟩ : ∃ X, X = u44.alloc (.cells (madeCells #[.int .i64 0] n) 3) := ⟨_, rfl⟩
          have hb : Below u44.heap.size u44 u45 := by rw [hu]; exact (Below.refl _ _).alloc (Nat.le_refl _) _
          have D2_4 : g2 ≠ g4 := by have := F2.out.lt; omega
          have D4_10 : g4 ≠ g10 := by have := F10.out.lt; omega
          rw [← hg, ← hu]
          have F4 := Lib.hid (CF.new HB.out.size hg hu)
          replace F2 := Lib.hid (F2.out.below hb)
          replace F6 := Lib.hid (F6.out.below hb)
          replace F8 := Lib.hid (F8.out.below hb)
          replace F10 := Lib.hid (F10.out.below hb)
          replace HB := Lib.hid (hbt HB.out hb)
          clear hb hg hu
          refine hK.out _ _ (True.intro) (fun hHeld45 => ?_)
          clear hK K
          try simp only [Act.put, List.getElem_toArray, List.getElem_cons_zero, List.getElem_cons_succ, List.setIfInBounds_toArray, List.set_cons_zero, List.set_cons_succ]
          refine wpAnyH_take (i := 11) (v := ?_) rfl (by kernel_rfl) (by kernel_rfl) (by kernel_rfl) (fun _ _ _ h => h) (Or.inl ⟨by rfl, ?ynf46⟩) (by assumption) ?qnf46
          case ynf46 => (intro wz hSw; (try dsimp only at hSw); go_simp <;> with_reducible rfl)
          try simp only [Act.put, List.getElem_toArray, List.getElem_cons_zero, List.getElem_cons_succ, List.setIfInBounds_toArray, List.set_cons_zero, List.set_cons_succ]
          refine wpAnyH_ready (rs := [12]) (by kernel_rfl) (by simp) ?_
          refine AllReadyH.cons rfl (fun K hK => ?_) AllReadyH.nil
          go_simp
          refine hK.out _ _ (True.intro) (fun hHeld47 => ?_)
          clear hK K
          try simp only [Act.put, List.getElem_toArray, List.getElem_cons_zero, List.getElem_cons_succ, List.setIfInBounds_toArray, List.set_cons_zero, List.set_cons_succ]
          refine wpAnyH_take (i := 13) (v := ?_) rfl (by kernel_rfl) (by kernel_rfl) (by kernel_rfl) (fun _ _ _ h => h) (Or.inl ⟨by rfl, ?ynf48⟩) (by assumption) ?qnf48
          case ynf48 => (intro wz hSw; (try dsimp only at hSw); go_simp <;> with_reducible rfl)
          try simp only [Act.put, List.getElem_toArray, List.getElem_cons_zero, List.getElem_cons_succ, List.setIfInBounds_toArray, List.set_cons_zero, List.set_cons_succ]
          refine wpAnyH_done (by kernel_rfl) ?_ _
          go_wp2
          exact HKEY.out _ _ _ _ _ _ _ HB.out F2.out F4.out F10.out F6.out F8.out D2_4 D2_10 D4_10
        exact AllReadyH.nil
      refine AllReadyH.cons rfl (fun K hK => ?bnf49) ?cnf49
      case bnf49 =>
        go_simp
        obtain ⟨g10, hg⟩ : ∃ g, g = u26.heap.size := ⟨_, rfl⟩
        obtain ⟨u49, hu⟩ : ∃ X, X = u26.alloc (.cells (madeCells #[.int .i64 0] n) 3) := ⟨_, rfl⟩
        have hb : Below u26.heap.size u26 u49 := by rw [hu]; exact (Below.refl _ _).alloc (Nat.le_refl _) _
        have D2_10 : g2 ≠ g10 := by have := F2.out.lt; omega
        rw [← hg, ← hu]
        have F10 := Lib.hid (CF.new HB.out.size hg hu)
        replace F2 := Lib.hid (F2.out.below hb)
        replace F6 := Lib.hid (F6.out.below hb)
        replace HB := Lib.hid (hbt HB.out hb)
        clear hb hg hu
        refine hK.out _ _ (True.intro) (fun hHeld49 => ?_)
        clear hK K
        try simp only [Act.put, List.getElem_toArray, List.getElem_cons_zero, List.getElem_cons_succ, List.setIfInBounds_toArray, List.set_cons_zero, List.set_cons_succ]
        refine wpAnyH_ready (rs := [4, 8]) (by kernel_rfl) (by simp) ?_
        refine AllReadyH.cons rfl (fun K hK => ?bnf50) ?cnf50
        case bnf50 =>
          go_simp
          obtain ⟨g4, hg⟩ : ∃ g, g = u49.heap.size := ⟨_, rfl⟩
          obtain ⟨u50, hu⟩ : ∃ X, X = u49.alloc (.cells (madeCells #[.int .i64 0] n) 3) := ⟨_, rfl⟩
          have hb : Below u49.heap.size u49 u50 := by rw [hu]; exact (Below.refl _ _).alloc (Nat.le_refl _) _
          have D2_4 : g2 ≠ g4 := by have := F2.out.lt; omega
          have D4_10 : g4 ≠ g10 := by have := F10.out.lt; omega
          rw [← hg, ← hu]
          have F4 := Lib.hid (CF.new HB.out.size hg hu)
          replace F2 := Lib.hid (F2.out.below hb)
          replace F6 := Lib.hid (F6.out.below hb)
          replace F10 := Lib.hid (F10.out.below hb)
          replace HB := Lib.hid (hbt HB.out hb)
          clear hb hg hu
          refine hK.out _ _ (True.intro) (fun hHeld50 => ?_)
          clear hK K
          try simp only [Act.put, List.getElem_toArray, List.getElem_cons_zero, List.getElem_cons_succ, List.setIfInBounds_toArray, List.set_cons_zero, List.set_cons_succ]
          refine wpAnyH_ready (rs := [8]) (by kernel_rfl) (by simp) ?_
          refine AllReadyH.cons rfl (fun K hK => ?_) AllReadyH.nil
          go_simp
          refine (HN.out _).mono ?_
          rintro e u51 ⟨rfl, hs, hb⟩
          obtain ⟨g8, hg⟩ : ∃ g, g = u50.heap.size := ⟨_, rfl⟩
          rw [← hg] at hs ⊢
          have F8 := Lib.hid (RF_.new HB.out.size hg hs)
          replace F2 := Lib.hid (F2.out.below hb)
          replace F4 := Lib.hid (F4.out.below hb)
          replace F6 := Lib.hid (F6.out.below hb)
          replace F10 := Lib.hid (F10.out.below hb)
          replace HB := Lib.hid (hbt HB.out hb)
          clear hb hg hs
          refine hK.out _ _ (True.intro) (fun hHeld51 => ?_)
          clear hK K
          try simp only [Act.put, List.getElem_toArray, List.getElem_cons_zero, List.getElem_cons_succ, List.setIfInBounds_toArray, List.set_cons_zero, List.set_cons_succ]
          refine wpAnyH_take (i := 11) (v := ?_) rfl (by kernel_rfl) (by kernel_rfl) (by kernel_rfl) (fun _ _ _ h => h) (Or.inl ⟨by rfl, ?ynf52⟩) (by assumption) ?qnf52
          case ynf52 => (intro wz hSw; (try dsimp only at hSw); go_simp <;> with_reducible rfl)
          try simp only [Act.put, List.getElem_toArray, List.getElem_cons_zero, List.getElem_cons_succ, List.setIfInBounds_toArray, List.set_cons_zero, List.set_cons_succ]
          refine wpAnyH_ready (rs := [12]) (by kernel_rfl) (by simp) ?_
          refine AllReadyH.cons rfl (fun K hK => ?_) AllReadyH.nil
          go_simp
          refine hK.out _ _ (True.intro) (fun hHeld53 => ?_)
          clear hK K
          try simp only [Act.put, List.getElem_toArray, List.getElem_cons_zero, List.getElem_cons_succ, List.setIfInBounds_toArray, List.set_cons_zero, List.set_cons_succ]
          refine wpAnyH_take (i := 13) (v := ?_) rfl (by kernel_rfl) (by kernel_rfl) (by kernel_rfl) (fun _ _ _ h => h) (Or.inl ⟨by rfl, ?ynf54⟩) (by assumption) ?qnf54
          case ynf54 => (intro wz hSw; (try dsimp only at hSw); go_simp <;> with_reducible rfl)
          try simp only [Act.put, List.getElem_toArray, List.getElem_cons_zero, List.getElem_cons_succ, List.setIfInBounds_toArray, List.set_cons_zero, List.set_cons_succ]
          refine wpAnyH_done (by kernel_rfl) ?_ _
          go_wp2
          exact HKEY.out _ _ _ _ _ _ _ HB.out F2.out F4.out F10.out F6.out F8.out D2_4 D2_10 D4_10
        refine AllReadyH.cons rfl (fun K hK => ?bnf55) ?cnf55
        case bnf55 =>
          go_simp
          refine (HN.out _).mono ?_
          rintro e u55 ⟨rfl, hs, hb⟩
          obtain ⟨g8, hg⟩ : ∃ g, g = u49.heap.size := ⟨_, rfl⟩
          rw [← hg] at hs ⊢
          have F8 := Lib.hid (RF_.new HB.out.size hg hs)
          replace F2 := Lib.hid (F2.out.below hb)
          replace F6 := Lib.hid (F6.out.below hb)
          replace F10 := Lib.hid (F10.out.below hb)
          replace HB := Lib.hid (hbt HB.out hb)
          clear hb hg hs
          refine hK.out _ _ (True.intro) (fun hHeld55 => ?_)
          clear hK K
          try simp only [Act.put, List.getElem_toArray, List.getElem_cons_zero, List.getElem_cons_succ, List.setIfInBounds_toArray, List.set_cons_zero, List.set_cons_succ]
          refine wpAnyH_ready (rs := [4]) (by kernel_rfl) (by simp) ?_
          refine AllReadyH.cons rfl (fun K hK => ?_) AllReadyH.nil
          go_simp
          obtain ⟨g4, hg⟩ : ∃ g, g = u55.heap.size := ⟨_, rfl⟩
          obtain ⟨u56, hu⟩ : ∃ X, X = u55.alloc (.cells (madeCells #[.int .i64 0] n) 3) := ⟨_, rfl⟩
          have hb : Below u55.heap.size u55 u56 := by rw [hu]; exact (Below.refl _ _).alloc (Nat.le_refl _) _
          have D2_4 : g2 ≠ g4 := by have := F2.out.lt; omega
          have D4_10 : g4 ≠ g10 := by have := F10.out.lt; omega
          rw [← hg, ← hu]
          have F4 := Lib.hid (CF.new HB.out.size hg hu)
          replace F2 := Lib.hid (F2.out.below hb)
          replace F6 := Lib.hid (F6.out.below hb)
          replace F8 := Lib.hid (F8.out.below hb)
          replace F10 := Lib.hid (F10.out.below hb)
          replace HB := Lib.hid (hbt HB.out hb)
          clear hb hg hu
          refine hK.out _ _ (True.intro) (fun hHeld56 => ?_)
          clear hK K
          try simp only [Act.put, List.getElem_toArray, List.getElem_cons_zero, List.getElem_cons_succ, List.setIfInBounds_toArray, List.set_cons_zero, List.set_cons_succ]
          refine wpAnyH_take (i := 11) (v := ?_) rfl (by kernel_rfl) (by kernel_rfl) (by kernel_rfl) (fun _ _ _ h => h) (Or.inl ⟨by rfl, ?ynf57⟩) (by assumption) ?qnf57
          case ynf57 => (intro wz hSw; (try dsimp only at hSw); go_simp <;> with_reducible rfl)
          try simp only [Act.put, List.getElem_toArray, List.getElem_cons_zero, List.getElem_cons_succ, List.setIfInBounds_toArray, List.set_cons_zero, List.set_cons_succ]
          refine wpAnyH_ready (rs := [12]) (by kernel_rfl) (by simp) ?_
          refine AllReadyH.cons rfl (fun K hK => ?_) AllReadyH.nil
          go_simp
          refine hK.out _ _ (True.intro) (fun hHeld58 => ?_)
          clear hK K
          try simp only [Act.put, List.getElem_toArray, List.getElem_cons_zero, List.getElem_cons_succ, List.setIfInBounds_toArray, List.set_cons_zero, List.set_cons_succ]
          refine wpAnyH_take (i := 13) (v := ?_) rfl (by kernel_rfl) (by kernel_rfl) (by kernel_rfl) (fun _ _ _ h => h) (Or.inl ⟨by rfl, ?ynf59⟩) (by assumption) ?qnf59
          case ynf59 => (intro wz hSw; (try dsimp only at hSw); go_simp <;> with_reducible rfl)
          try simp only [Act.put, List.getElem_toArray, List.getElem_cons_zero, List.getElem_cons_succ, List.setIfInBounds_toArray, List.set_cons_zero, List.set_cons_succ]
          refine wpAnyH_done (by kernel_rfl) ?_ _
          go_wp2
          exact HKEY.out _ _ _ _ _ _ _ HB.out F2.out F4.out F10.out F6.out F8.out D2_4 D2_10 D4_10
        exact AllReadyH.nil
      exact AllReadyH.nil
    refine AllReadyH.cons rfl (fun K hK => ?bnf60) ?cnf60
    case bnf60 =>
      go_simp
      obtain ⟨g10, hg⟩ : ∃ g, g = u7.heap.size := ⟨_, rfl⟩
      obtain ⟨u60, hu⟩ : ∃ X, X = u7.alloc (.cells (madeCells #[.int .i64 0] n) 3) := ⟨_, rfl⟩
      have hb : Below u7.heap.size u7 u60 := by rw [hu]; exact (Below.refl _ _).alloc (Nat.le_refl _) _
      have D2_10 : g2 ≠ g10 := by have := F2.out.lt; omega
      rw [← hg, ← hu]
      have F10 := Lib.hid (CF.new HB.out.size hg hu)
      replace F2 := Lib.hid (F2.out.below hb)
      replace HB := Lib.hid (hbt HB.out hb)
      clear hb hg hu
      refine hK.out _ _ (True.intro) (fun hHeld60 => ?_)
      clear hK K
      try simp only [Act.put, List.getElem_toArray, List.getElem_cons_zero, List.getElem_cons_succ, List.setIfInBounds_toArray, List.set_cons_zero, List.set_cons_succ]
      refine wpAnyH_ready (rs := [4, 6]) (by kernel_rfl) (by simp) ?_
      refine AllReadyH.cons rfl (fun K hK => ?bnf61) ?cnf61
      case bnf61 =>
        go_simp
        obtain ⟨g4, hg⟩ : ∃ g, g = u60.heap.size := ⟨_, rfl⟩
        obtain ⟨u61, hu⟩ : ∃ X, X = u60.alloc (.cells (madeCells #[.int .i64 0] n) 3) := ⟨_, rfl⟩
        have hb : Below u60.heap.size u60 u61 := by rw [hu]; exact (Below.refl _ _).alloc (Nat.le_refl _) _
        have D2_4 : g2 ≠ g4 := by have := F2.out.lt; omega
        have D4_10 : g4 ≠ g10 := by have := F10.out.lt; omega
        rw [← hg, ← hu]
        have F4 := Lib.hid (CF.new HB.out.size hg hu)
        replace F2 := Lib.hid (F2.out.below hb)
        replace F10 := Lib.hid (F10.out.below hb)
        replace HB := Lib.hid (hbt HB.out hb)
        clear hb hg hu
        refine hK.out _ _ (True.intro) (fun hHeld61 => ?_)
        clear hK K
        try simp only [Act.put, List.getElem_toArray, List.getElem_cons_zero, List.getElem_cons_succ, List.setIfInBounds_toArray, List.set_cons_zero, List.set_cons_succ]
        refine wpAnyH_ready (rs := [6]) (by kernel_rfl) (by simp) ?_
        refine AllReadyH.cons rfl (fun K hK => ?_) AllReadyH.nil
        go_simp
        refine (HS.out _).mono ?_
        rintro e u62 ⟨rfl, hs, hb⟩
        obtain ⟨g6, hg⟩ : ∃ g, g = u61.heap.size := ⟨_, rfl⟩
        rw [← hg] at hs ⊢
        have F6 := Lib.hid (SF.new HB.out.size hg hs)
        replace F2 := Lib.hid (F2.out.below hb)
        replace F4 := Lib.hid (F4.out.below hb)
        replace F10 := Lib.hid (F10.out.below hb)
        replace HB := Lib.hid (hbt HB.out hb)
        clear hb hg hs
        refine hK.out _ _ (True.intro) (fun hHeld62 => ?_)
        clear hK K
        try simp only [Act.put, List.getElem_toArray, List.getElem_cons_zero, List.getElem_cons_succ, List.setIfInBounds_toArray, List.set_cons_zero, List.set_cons_succ]
        refine wpAnyH_ready (rs := [8]) (by kernel_rfl) (by simp) ?_
        refine AllReadyH.cons rfl (fun K hK => ?_) AllReadyH.nil
        go_simp
        refine (HN.out _).mono ?_
        rintro e u63 ⟨rfl, hs, hb⟩
        obtain ⟨g8, hg⟩ : ∃ g, g = u62.heap.size := ⟨_, rfl⟩
        rw [← hg] at hs ⊢
        have F8 := Lib.hid (RF_.new HB.out.size hg hs)
        replace F2 := Lib.hid (F2.out.below hb)
        replace F4 := Lib.hid (F4.out.below hb)
        replace F6 := Lib.hid (F6.out.below hb)
        replace F10 := Lib.hid (F10.out.below hb)
        replace HB := Lib.hid (hbt HB.out hb)
        clear hb hg hs
        refine hK.out _ _ (True.intro) (fun hHeld63 => ?_)
        clear hK K
        try simp only [Act.put, List.getElem_toArray, List.getElem_cons_zero, List.getElem_cons_succ, List.setIfInBounds_toArray, List.set_cons_zero, List.set_cons_succ]
        refine wpAnyH_take (i := 11) (v := ?_) rfl (by kernel_rfl) (by kernel_rfl) (by kernel_rfl) (fun _ _ _ h => h) (Or.inl ⟨by rfl, ?ynf64⟩) (by assumption) ?qnf64
        case ynf64 => (intro wz hSw; (try dsimp only at hSw); go_simp <;> with_reducible rfl)
        try simp only [Act.put, List.getElem_toArray, List.getElem_cons_zero, List.getElem_cons_succ, List.setIfInBounds_toArray, List.set_cons_zero, List.set_cons_succ]
        refine wpAnyH_ready (rs := [12]) (by kernel_rfl) (by simp) ?_
        refine AllReadyH.cons rfl (fun K hK => ?_) AllReadyH.nil
        go_simp
        refine hK.out _ _ (True.intro) (fun hHeld65 => ?_)
        clear hK K
        try simp only [Act.put, List.getElem_toArray, List.getElem_cons_zero, List.getElem_cons_succ, List.setIfInBounds_toArray, List.set_cons_zero, List.set_cons_succ]
        refine wpAnyH_take (i := 13) (v := ?_) rfl (by kernel_rfl) (by kernel_rfl) (by kernel_rfl) (fun _ _ _ h => h) (Or.inl ⟨by rfl, ?ynf66⟩) (by assumption) ?qnf66
        case ynf66 => (intro wz hSw; (try dsimp only at hSw); go_simp <;> with_reducible rfl)
        try simp only [Act.put, List.getElem_toArray, List.getElem_cons_zero, List.getElem_cons_succ, List.setIfInBounds_toArray, List.set_cons_zero, List.set_cons_succ]
        refine wpAnyH_done (by kernel_rfl) ?_ _
        go_wp2
        exact HKEY.out _ _ _ _ _ _ _ HB.out F2.out F4.out F10.out F6.out F8.out D2_4 D2_10 D4_10
      refine AllReadyH.cons rfl (fun K hK => ?bnf67) ?cnf67
      case bnf67 =>
        go_simp
        refine (HS.out _).mono ?_
        rintro e u67 ⟨rfl, hs, hb⟩
        obtain ⟨g6, hg⟩ : ∃ g, g = u60.heap.size := ⟨_, rfl⟩
        rw [← hg] at hs ⊢
        have F6 := Lib.hid (SF.new HB.out.size hg hs)
        replace F2 := Lib.hid (F2.out.below hb)
        replace F10 := Lib.hid (F10.out.below hb)
        replace HB := Lib.hid (hbt HB.out hb)
        clear hb hg hs
        refine hK.out _ _ (True.intro) (fun hHeld67 => ?_)
        clear hK K
        try simp only [Act.put, List.getElem_toArray, List.getElem_cons_zero, List.getElem_cons_succ, List.setIfInBounds_toArray, List.set_cons_zero, List.set_cons_succ]
        refine wpAnyH_ready (rs := [4, 8]) (by kernel_rfl) (by simp) ?_
        refine AllReadyH.cons rfl (fun K hK => ?bnf68) ?cnf68
        case bnf68 =>
          go_simp
          obtain ⟨g4, hg⟩ : ∃ g, g = u67.heap.size := ⟨_, rfl⟩
          obtain ⟨u68, hu⟩ : ∃ X, X = u67.alloc (.cells (madeCells #[.int .i64 0] n) 3) := ⟨_, rfl⟩
          have hb : Below u67.heap.size u67 u68 := by rw [hu]; exact (Below.refl _ _).alloc (Nat.le_refl _) _
          have D2_4 : g2 ≠ g4 := by have := F2.out.lt; omega
          have D4_10 : g4 ≠ g10 := by have := F10.out.lt; omega
          rw [← hg, ← hu]
          have F4 := Lib.hid (CF.new HB.out.size hg hu)
          replace F2 := Lib.hid (F2.out.below hb)
          replace F6 := Lib.hid (F6.out.below hb)
          replace F10 := Lib.hid (F10.out.below hb)
          replace HB := Lib.hid (hbt HB.out hb)
          clear hb hg hu
          refine hK.out _ _ (True.intro) (fun hHeld68 => ?_)
          clear hK K
          try simp only [Act.put, List.getElem_toArray, List.getElem_cons_zero, List.getElem_cons_succ, List.setIfInBounds_toArray, List.set_cons_zero, List.set_cons_succ]
          refine wpAnyH_ready (rs := [8]) (by kernel_rfl) (by simp) ?_
          refine AllReadyH.cons rfl (fun K hK => ?_) AllReadyH.nil
          go_simp
          refine (HN.out _).mono ?_
          rintro e u69 ⟨rfl, hs, hb⟩
          obtain ⟨g8, hg⟩ : ∃ g, g = u68.heap.size := ⟨_, rfl⟩
          rw [← hg] at hs ⊢
          have F8 := Lib.hid (RF_.new HB.out.size hg hs)
          replace F2 := Lib.hid (F2.out.below hb)
          replace F4 := Lib.hid (F4.out.below hb)
          replace F6 := Lib.hid (F6.out.below hb)
          replace F10 := Lib.hid (F10.out.below hb)
          replace HB := Lib.hid (hbt HB.out hb)
          clear hb hg hs
          refine hK.out _ _ (True.intro) (fun hHeld69 => ?_)
          clear hK K
          try simp only [Act.put, List.getElem_toArray, List.getElem_cons_zero, List.getElem_cons_succ, List.setIfInBounds_toArray, List.set_cons_zero, List.set_cons_succ]
          refine wpAnyH_take (i := 11) (v := ?_) rfl (by kernel_rfl) (by kernel_rfl) (by kernel_rfl) (fun _ _ _ h => h) (Or.inl ⟨by rfl, ?ynf70⟩) (by assumption) ?qnf70
          case ynf70 => (intro wz hSw; (try dsimp only at hSw); go_simp <;> with_reducible rfl)
          try simp only [Act.put, List.getElem_toArray, List.getElem_cons_zero, List.getElem_cons_succ, List.setIfInBounds_toArray, List.set_cons_zero, List.set_cons_succ]
          refine wpAnyH_ready (rs := [12]) (by kernel_rfl) (by simp) ?_
          refine AllReadyH.cons rfl (fun K hK => ?_) AllReadyH.nil
          go_simp
          refine hK.out _ _ (True.intro) (fun hHeld71 => ?_)
          clear hK K
          try simp only [Act.put, List.getElem_toArray, List.getElem_cons_zero, List.getElem_cons_succ, List.setIfInBounds_toArray, List.set_cons_zero, List.set_cons_succ]
          refine wpAnyH_take (i := 13) (v := ?_) rfl (by kernel_rfl) (by kernel_rfl) (by kernel_rfl) (fun _ _ _ h => h) (Or.inl ⟨by rfl, ?ynf72⟩) (by assumption) ?qnf72
          case ynf72 => (intro wz hSw; (try dsimp only at hSw); go_simp <;> with_reducible rfl)
          try simp only [Act.put, List.getElem_toArray, List.getElem_cons_zero, List.getElem_cons_succ, List.setIfInBounds_toArray, List.set_cons_zero, List.set_cons_succ]
          refine wpAnyH_done (by kernel_rfl) ?_ _
          go_wp2
          exact HKEY.out _ _ _ _ _ _ _ HB.out F2.out F4.out F10.out F6.out F8.out D2_4 D2_10 D4_10
        refine AllReadyH.cons rfl (fun K hK => ?bnf73) ?cnf73
        case bnf73 =>
          go_simp
          refine (HN.out _).mono ?_
          rintro e u73 ⟨rfl, hs, hb⟩
          obtain ⟨g8, hg⟩ : ∃ g, g = u67.heap.size := ⟨_, rfl⟩
          rw [← hg] at hs ⊢
          have F8 := Lib.hid (RF_.new HB.out.size hg hs)
          replace F2 := Lib.hid (F2.out.below hb)
          replace F6 := Lib.hid (F6.out.below hb)
          replace F10 := Lib.hid (F10.out.below hb)
          replace HB := Lib.hid (hbt HB.out hb)
          clear hb hg hs
          refine hK.out _ _ (True.intro) (fun hHeld73 => ?_)
          clear hK K
          try simp only [Act.put, List.getElem_toArray, List.getElem_cons_zero, List.getElem_cons_succ, List.setIfInBounds_toArray, List.set_cons_zero, List.set_cons_succ]
          refine wpAnyH_ready (rs := [4]) (by kernel_rfl) (by simp) ?_
          refine AllReadyH.cons rfl (fun K hK => ?_) AllReadyH.nil
          go_simp
          obtain ⟨g4, hg⟩ : ∃ g, g = u73.heap.size := ⟨_, rfl⟩
          obtain ⟨u74, hu⟩ : ∃ X, X = u73.alloc (.cells (madeCells #[.int .i64 0] n) 3) := ⟨_, rfl⟩
          have hb : Below u73.heap.size u73 u74 := by rw [hu]; exact (Below.refl _ _).alloc (Nat.le_refl _) _
          have D2_4 : g2 ≠ g4 := by have := F2.out.lt; omega
          have D4_10 : g4 ≠ g10 := by have := F10.out.lt; omega
          rw [← hg, ← hu]
          have F4 := Lib.hid (CF.new HB.out.size hg hu)
          replace F2 := Lib.hid (F2.out.below hb)
          replace F6 := Lib.hid (F6.out.below hb)
          replace F8 := Lib.hid (F8.out.below hb)
          replace F10 := Lib.hid (F10.out.below hb)
          replace HB := Lib.hid (hbt HB.out hb)
          clear hb hg hu
          refine hK.out _ _ (True.intro) (fun hHeld74 => ?_)
          clear hK K
          try simp only [Act.put, List.getElem_toArray, List.getElem_cons_zero, List.getElem_cons_succ, List.setIfInBounds_toArray, List.set_cons_zero, List.set_cons_succ]
          refine wpAnyH_take (i := 11) (v := ?_) rfl (by kernel_rfl) (by kernel_rfl) (by kernel_rfl) (fun _ _ _ h => h) (Or.inl ⟨by rfl, ?ynf75⟩) (by assumption) ?qnf75
          case ynf75 => (intro wz hSw; (try dsimp only at hSw); go_simp <;> with_reducible rfl)
          try simp only [Act.put, List.getElem_toArray, List.getElem_cons_zero, List.getElem_cons_succ, List.setIfInBounds_toArray, List.set_cons_zero, List.set_cons_succ]
          refine wpAnyH_ready (rs := [12]) (by kernel_rfl) (by simp) ?_
          refine AllReadyH.cons rfl (fun K hK => ?_) AllReadyH.nil
          go_simp
          refine hK.out _ _ (True.intro) (fun hHeld76 => ?_)
          clear hK K
          try simp only [Act.put, List.getElem_toArray, List.getElem_cons_zero, List.getElem_cons_succ, List.setIfInBounds_toArray, List.set_cons_zero, List.set_cons_succ]
          refine wpAnyH_take (i := 13) (v := ?_) rfl (by kernel_rfl) (by kernel_rfl) (by kernel_rfl) (fun _ _ _ h => h) (Or.inl ⟨by rfl, ?ynf77⟩) (by assumption) ?qnf77
          case ynf77 => (intro wz hSw; (try dsimp only at hSw); go_simp <;> with_reducible rfl)
          try simp only [Act.put, List.getElem_toArray, List.getElem_cons_zero, List.getElem_cons_succ, List.setIfInBounds_toArray, List.set_cons_zero, List.set_cons_succ]
          refine wpAnyH_done (by kernel_rfl) ?_ _
          go_wp2
          exact HKEY.out _ _ _ _ _ _ _ HB.out F2.out F4.out F10.out F6.out F8.out D2_4 D2_10 D4_10
        exact AllReadyH.nil
      exact AllReadyH.nil
    exact AllReadyH.nil
  refine AllReadyH.cons rfl (fun K hK => ?bnf78) ?cnf78
  case bnf78 =>
    go_simp
    obtain ⟨g4, hg⟩ : ∃ g, g = U0.heap.size := ⟨_, rfl⟩
    obtain ⟨u78, hu⟩ : ∃ X, X = U0.alloc (.cells (madeCells #[.int .i64 0] n) 3) := ⟨_, rfl⟩
    have hb : Below U0.heap.size U0 u78 := by rw [hu]; exact (Below.refl _ _).alloc (Nat.le_refl _) _
    rw [← hg, ← hu]
    have F4 := Lib.hid (CF.new HB.out.size hg hu)
    replace HB := Lib.hid (hbt HB.out hb)
    clear hb hg hu
    refine hK.out _ _ (True.intro) (fun hHeld78 => ?_)
    clear hK K
    try simp only [Act.put, List.getElem_toArray, List.getElem_cons_zero, List.getElem_cons_succ, List.setIfInBounds_toArray, List.set_cons_zero, List.set_cons_succ]
    refine wpAnyH_ready (rs := [2, 6, 10]) (by kernel_rfl) (by simp) ?_
    refine AllReadyH.cons rfl (fun K hK => ?bnf79) ?cnf79
    case bnf79 =>
      go_simp
      obtain ⟨g2, hg⟩ : ∃ g, g = u78.heap.size := ⟨_, rfl⟩
      obtain ⟨u79, hu⟩ : ∃ X, X = u78.alloc (.cells (madeCells #[.int .i64 0] n) 3) := ⟨_, rfl⟩
      have hb : Below u78.heap.size u78 u79 := by rw [hu]; exact (Below.refl _ _).alloc (Nat.le_refl _) _
      have D2_4 : g2 ≠ g4 := by have := F4.out.lt; omega
      rw [← hg, ← hu]
      have F2 := Lib.hid (CF.new HB.out.size hg hu)
      replace F4 := Lib.hid (F4.out.below hb)
      replace HB := Lib.hid (hbt HB.out hb)
      clear hb hg hu
      refine hK.out _ _ (True.intro) (fun hHeld79 => ?_)
      clear hK K
      try simp only [Act.put, List.getElem_toArray, List.getElem_cons_zero, List.getElem_cons_succ, List.setIfInBounds_toArray, List.set_cons_zero, List.set_cons_succ]
      refine wpAnyH_ready (rs := [6, 10]) (by kernel_rfl) (by simp) ?_
      refine AllReadyH.cons rfl (fun K hK => ?bnf80) ?cnf80
      case bnf80 =>
        go_simp
        refine (HS.out _).mono ?_
        rintro e u80 ⟨rfl, hs, hb⟩
        obtain ⟨g6, hg⟩ : ∃ g, g = u79.heap.size := ⟨_, rfl⟩
        rw [← hg] at hs ⊢
        have F6 := Lib.hid (SF.new HB.out.size hg hs)
        replace F2 := Lib.hid (F2.out.below hb)
        replace F4 := Lib.hid (F4.out.below hb)
        replace HB := Lib.hid (hbt HB.out hb)
        clear hb hg hs
        refine hK.out _ _ (True.intro) (fun hHeld80 => ?_)
        clear hK K
        try simp only [Act.put, List.getElem_toArray, List.getElem_cons_zero, List.getElem_cons_succ, List.setIfInBounds_toArray, List.set_cons_zero, List.set_cons_succ]
        refine wpAnyH_ready (rs := [8, 10]) (by kernel_rfl) (by simp) ?_
        refine AllReadyH.cons rfl (fun K hK => ?bnf81) ?cnf81
        case bnf81 =>
          go_simp
          refine (HN.out _).mono ?_
          rintro e u81 ⟨rfl, hs, hb⟩
          obtain ⟨g8, hg⟩ : ∃ g, g = u80.heap.size := ⟨_, rfl⟩
          rw [← hg] at hs ⊢
          have F8 := Lib.hid (RF_.new HB.out.size hg hs)
          replace F2 := Lib.hid (F2.out.below hb)
          replace F4 := Lib.hid (F4.out.below hb)
          replace F6 := Lib.hid (F6.out.below hb)
          replace HB := Lib.hid (hbt HB.out hb)
          clear hb hg hs
          refine hK.out _ _ (True.intro) (fun hHeld81 => ?_)
          clear hK K
          try simp only [Act.put, List.getElem_toArray, List.getElem_cons_zero, List.getElem_cons_succ, List.setIfInBounds_toArray, List.set_cons_zero, List.set_cons_succ]
          refine wpAnyH_ready (rs := [10]) (by kernel_rfl) (by simp) ?_
          refine AllReadyH.cons rfl (fun K hK => ?_) AllReadyH.nil
          go_simp
          obtain ⟨g10, hg⟩ : ∃ g, g = u81.heap.size := ⟨_, rfl⟩
          obtain ⟨u82, hu⟩ : ∃ X, X = u81.alloc (.cells (madeCells #[.int .i64 0] n) 3) := ⟨_, rfl⟩
          have hb : Below u81.heap.size u81 u82 := by rw [hu]; exact (Below.refl _ _).alloc (Nat.le_refl _) _
          have D2_10 : g2 ≠ g10 := by have := F2.out.lt; omega
          have D4_10 : g4 ≠ g10 := by have := F4.out.lt; omega
          rw [← hg, ← hu]
          have F10 := Lib.hid (CF.new HB.out.size hg hu)
          replace F2 := Lib.hid (F2.out.below hb)
          replace F4 := Lib.hid (F4.out.below hb)
          replace F6 := Lib.hid (F6.out.below hb)
          replace F8 := Lib.hid (F8.out.below hb)
          replace HB := Lib.hid (hbt HB.out hb)
          clear hb hg hu
          refine hK.out _ _ (True.intro) (fun hHeld82 => ?_)
          clear hK K
          try simp only [Act.put, List.getElem_toArray, List.getElem_cons_zero, List.getElem_cons_succ, List.setIfInBounds_toArray, List.set_cons_zero, List.set_cons_succ]
          refine wpAnyH_take (i := 11) (v := ?_) rfl (by kernel_rfl) (by kernel_rfl) (by kernel_rfl) (fun _ _ _ h => h) (Or.inl ⟨by rfl, ?ynf83⟩) (by assumption) ?qnf83
          case ynf83 => (intro wz hSw; (try dsimp only at hSw); go_simp <;> with_reducible rfl)
          try simp only [Act.put, List.getElem_toArray, List.getElem_cons_zero, List.getElem_cons_succ, List.setIfInBounds_toArray, List.set_cons_zero, List.set_cons_succ]
          refine wpAnyH_ready (rs := [12]) (by kernel_rfl) (by simp) ?_
          refine AllReadyH.cons rfl (fun K hK => ?_) AllReadyH.nil
          go_simp
          refine hK.out _ _ (True.intro) (fun hHeld84 => ?_)
          clear hK K
          try simp only [Act.put, List.getElem_toArray, List.getElem_cons_zero, List.getElem_cons_succ, List.setIfInBounds_toArray, List.set_cons_zero, List.set_cons_succ]
          refine wpAnyH_take (i := 13) (v := ?_) rfl (by kernel_rfl) (by kernel_rfl) (by kernel_rfl) (fun _ _ _ h => h) (Or.inl ⟨by rfl, ?ynf85⟩) (by assumption) ?qnf85
          case ynf85 => (intro wz hSw; (try dsimp only at hSw); go_simp <;> with_reducible rfl)
          try simp only [Act.put, List.getElem_toArray, List.getElem_cons_zero, List.getElem_cons_succ, List.setIfInBounds_toArray, List.set_cons_zero, List.set_cons_succ]
          refine wpAnyH_done (by kernel_rfl) ?_ _
          go_wp2
          exact HKEY.out _ _ _ _ _ _ _ HB.out F2.out F4.out F10.out F6.out F8.out D2_4 D2_10 D4_10
        refine AllReadyH.cons rfl (fun K hK => ?bnf86) ?cnf86
        case bnf86 =>
          go_simp
          obtain ⟨g10, hg⟩ : ∃ g, g = u80.heap.size := ⟨_, rfl⟩
          obtain ⟨u86, hu⟩ : ∃ X, X = u80.alloc (.cells (madeCells #[.int .i64 0] n) 3) := ⟨_, rfl⟩
          have hb : Below u80.heap.size u80 u86 := by rw [hu]; exact (Below.refl _ _).alloc (Nat.le_refl _) _
          have D2_10 : g2 ≠ g10 := by have := F2.out.lt; omega
          have D4_10 : g4 ≠ g10 := by have := F4.out.lt; omega
          rw [← hg, ← hu]
          have F10 := Lib.hid (CF.new HB.out.size hg hu)
          replace F2 := Lib.hid (F2.out.below hb)
          replace F4 := Lib.hid (F4.out.below hb)
          replace F6 := Lib.hid (F6.out.below hb)
          replace HB := Lib.hid (hbt HB.out hb)
          clear hb hg hu
          refine hK.out _ _ (True.intro) (fun hHeld86 => ?_)
          clear hK K
          try simp only [Act.put, List.getElem_toArray, List.getElem_cons_zero, List.getElem_cons_succ, List.setIfInBounds_toArray, List.set_cons_zero, List.set_cons_succ]
          refine wpAnyH_ready (rs := [8]) (by kernel_rfl) (by simp) ?_
          refine AllReadyH.cons rfl (fun K hK => ?_) AllReadyH.nil
          go_simp
          refine (HN.out _).mono ?_
          rintro e u87 ⟨rfl, hs, hb⟩
          obtain ⟨g8, hg⟩ : ∃ g, g = u86.heap.size := ⟨_, rfl⟩
          rw [← hg] at hs ⊢
          have F8 := Lib.hid (RF_.new HB.out.size hg hs)
          replace F2 := Lib.hid (F2.out.below hb)
          replace F4 := Lib.hid (F4.out.below hb)
          replace F6 := Lib.hid (F6.out.below hb)
          replace F10 := Lib.hid (F10.out.below hb)
          replace HB := Lib.hid (hbt HB.out hb)
          clear hb hg hs
          refine hK.out _ _ (True.intro) (fun hHeld87 => ?_)
          clear hK K
          try simp only [Act.put, List.getElem_toArray, List.getElem_cons_zero, List.getElem_cons_succ, List.setIfInBounds_toArray, List.set_cons_zero, List.set_cons_succ]
          refine wpAnyH_take (i := 11) (v := ?_) rfl (by kernel_rfl) (by kernel_rfl) (by kernel_rfl) (fun _ _ _ h => h) (Or.inl ⟨by rfl, ?ynf88⟩) (by assumption) ?qnf88
          case ynf88 => (intro wz hSw; (try dsimp only at hSw); go_simp <;> with_reducible rfl)
          try simp only [Act.put, List.getElem_toArray, List.getElem_cons_zero, List.getElem_cons_succ, List.setIfInBounds_toArray, List.set_cons_zero, List.set_cons_succ]
          refine wpAnyH_ready (rs := [12]) (by kernel_rfl) (by simp) ?_
          refine AllReadyH.cons rfl (fun K hK => ?_) AllReadyH.nil
          go_simp
          refine hK.out _ _ (True.intro) (fun hHeld89 => ?_)
          clear hK K
          try simp only [Act.put, List.getElem_toArray, List.getElem_cons_zero, List.getElem_cons_succ, List.setIfInBounds_toArray, List.set_cons_zero, List.set_cons_succ]
          refine wpAnyH_take (i := 13) (v := ?_) rfl (by kernel_rfl) (by kernel_rfl) (by kernel_rfl) (fun _ _ _ h => h) (Or.inl ⟨by rfl, ?ynf90⟩) (by assumption) ?qnf90
          case ynf90 => (intro wz hSw; (try dsimp only at hSw); go_simp <;> with_reducible rfl)
          try simp only [Act.put, List.getElem_toArray, List.getElem_cons_zero, List.getElem_cons_succ, List.setIfInBounds_toArray, List.set_cons_zero, List.set_cons_succ]
          refine wpAnyH_done (by kernel_rfl) ?_ _
          go_wp2
          exact HKEY.out _ _ _ _ _ _ _ HB.out F2.out F4.out F10.out F6.out F8.out D2_4 D2_10 D4_10
        exact AllReadyH.nil
      refine AllReadyH.cons rfl (fun K hK => ?bnf91) ?cnf91
      case bnf91 =>
        go_simp
        obtain ⟨g10, hg⟩ : ∃ g, g = u79.heap.size := ⟨_, rfl⟩
        obtain ⟨u91, hu⟩ : ∃ X, X = u79.alloc (.cells (madeCells #[.int .i64 0] n) 3) := ⟨_, rfl⟩
        have hb : Below u79.heap.size u79 u91 := by rw [hu]; exact (Below.refl _ _).alloc (Nat.le_refl _) _
        have D2_10 : g2 ≠ g10 := by have := F2.out.lt; omega
        have D4_10 : g4 ≠ g10 := by have := F4.out.lt; omega
        rw [← hg, ← hu]
        have F10 := Lib.hid (CF.new HB.out.size hg hu)
        replace F2 := Lib.hid (F2.out.below hb)
        replace F4 := Lib.hid (F4.out.below hb)
        replace HB := Lib.hid (hbt HB.out hb)
        clear hb hg hu
        refine hK.out _ _ (True.intro) (fun hHeld91 => ?_)
        clear hK K
        try simp only [Act.put, List.getElem_toArray, List.getElem_cons_zero, List.getElem_cons_succ, List.setIfInBounds_toArray, List.set_cons_zero, List.set_cons_succ]
        refine wpAnyH_ready (rs := [6]) (by kernel_rfl) (by simp) ?_
        refine AllReadyH.cons rfl (fun K hK => ?_) AllReadyH.nil
        go_simp
        refine (HS.out _).mono ?_
        rintro e u92 ⟨rfl, hs, hb⟩
        obtain ⟨g6, hg⟩ : ∃ g, g = u91.heap.size := ⟨_, rfl⟩
        rw [← hg] at hs ⊢
        have F6 := Lib.hid (SF.new HB.out.size hg hs)
        replace F2 := Lib.hid (F2.out.below hb)
        replace F4 := Lib.hid (F4.out.below hb)
        replace F10 := Lib.hid (F10.out.below hb)
        replace HB := Lib.hid (hbt HB.out hb)
        clear hb hg hs
        refine hK.out _ _ (True.intro) (fun hHeld92 => ?_)
        clear hK K
        try simp only [Act.put, List.getElem_toArray, List.getElem_cons_zero, List.getElem_cons_succ, List.setIfInBounds_toArray, List.set_cons_zero, List.set_cons_succ]
        refine wpAnyH_ready (rs := [8]) (by kernel_rfl) (by simp) ?_
        refine AllReadyH.cons rfl (fun K hK => ?_) AllReadyH.nil
        go_simp
        refine (HN.out _).mono ?_
        rintro e u93 ⟨rfl, hs, hb⟩
        obtain ⟨g8, hg⟩ : ∃ g, g = u92.heap.size := ⟨_, rfl⟩
        rw [← hg] at hs ⊢
        have F8 := Lib.hid (RF_.new HB.out.size hg hs)
        replace F2 := Lib.hid (F2.out.below hb)
        replace F4 := Lib.hid (F4.out.below hb)
        replace F6 := Lib.hid (F6.out.below hb)
        replace F10 := Lib.hid (F10.out.below hb)
        replace HB := Lib.hid (hbt HB.out hb)
        clear hb hg hs
        refine hK.out _ _ (True.intro) (fun hHeld93 => ?_)
        clear hK K
        try simp only [Act.put, List.getElem_toArray, List.getElem_cons_zero, List.getElem_cons_succ, List.setIfInBounds_toArray, List.set_cons_zero, List.set_cons_succ]
        refine wpAnyH_take (i := 11) (v := ?_) rfl (by kernel_rfl) (by kernel_rfl) (by kernel_rfl) (fun _ _ _ h => h) (Or.inl ⟨by rfl, ?ynf94⟩) (by assumption) ?qnf94
        case ynf94 => (intro wz hSw; (try dsimp only at hSw); go_simp <;> with_reducible rfl)
        try simp only [Act.put, List.getElem_toArray, List.getElem_cons_zero, List.getElem_cons_succ, List.setIfInBounds_toArray, List.set_cons_zero, List.set_cons_succ]
        refine wpAnyH_ready (rs := [12]) (by kernel_rfl) (by simp) ?_
        refine AllReadyH.cons rfl (fun K hK => ?_) AllReadyH.nil
        go_simp
        refine hK.out _ _ (True.intro) (fun hHeld95 => ?_)
        clear hK K
        try simp only [Act.put, List.getElem_toArray, List.getElem_cons_zero, List.getElem_cons_succ, List.setIfInBounds_toArray, List.set_cons_zero, List.set_cons_succ]
        refine wpAnyH_take (i := 13) (v := ?_) rfl (by kernel_rfl) (by kernel_rfl) (by kernel_rfl) (fun _ _ _ h => h) (Or.inl ⟨by rfl, ?ynf96⟩) (by assumption) ?qnf96
        case ynf96 => (intro wz hSw; (try dsimp only at hSw); go_simp <;> with_reducible rfl)
        try simp only [Act.put, List.getElem_toArray, List.getElem_cons_zero, List.getElem_cons_succ, List.setIfInBounds_toArray, List.set_cons_zero, List.set_cons_succ]
        refine wpAnyH_done (by kernel_rfl) ?_ _
        go_wp2
        exact HKEY.out _ _ _ _ _ _ _ HB.out F2.out F4.out F10.out F6.out F8.out D2_4 D2_10 D4_10
      exact AllReadyH.nil
    refine AllReadyH.cons rfl (fun K hK => ?bnf97) ?cnf97
    case bnf97 =>
      go_simp
      refine (HS.out _).mono ?_
      rintro e u97 ⟨rfl, hs, hb⟩
      obtain ⟨g6, hg⟩ : ∃ g, g = u78.heap.size := ⟨_, rfl⟩
      rw [← hg] at hs ⊢
      have F6 := Lib.hid (SF.new HB.out.size hg hs)
      replace F4 := Lib.hid (F4.out.below hb)
      replace HB := Lib.hid (hbt HB.out hb)
      clear hb hg hs
      refine hK.out _ _ (True.intro) (fun hHeld97 => ?_)
      clear hK K
      try simp only [Act.put, List.getElem_toArray, List.getElem_cons_zero, List.getElem_cons_succ, List.setIfInBounds_toArray, List.set_cons_zero, List.set_cons_succ]
      refine wpAnyH_ready (rs := [2, 8, 10]) (by kernel_rfl) (by simp) ?_
      refine AllReadyH.cons rfl (fun K hK => ?bnf98) ?cnf98
      case bnf98 =>
        go_simp
        obtain ⟨g2, hg⟩ : ∃ g, g = u97.heap.size := ⟨_, rfl⟩
        obtain ⟨u98, hu⟩ : ∃ X, X = u97.alloc (.cells (madeCells #[.int .i64 0] n) 3) := ⟨_, rfl⟩
        have hb : Below u97.heap.size u97 u98 := by rw [hu]; exact (Below.refl _ _).alloc (Nat.le_refl _) _
        have D2_4 : g2 ≠ g4 := by have := F4.out.lt; omega
        rw [← hg, ← hu]
        have F2 := Lib.hid (CF.new HB.out.size hg hu)
        replace F4 := Lib.hid (F4.out.below hb)
        replace F6 := Lib.hid (F6.out.below hb)
        replace HB := Lib.hid (hbt HB.out hb)
        clear hb hg hu
        refine hK.out _ _ (True.intro) (fun hHeld98 => ?_)
        clear hK K
        try simp only [Act.put, List.getElem_toArray, List.getElem_cons_zero, List.getElem_cons_succ, List.setIfInBounds_toArray, List.set_cons_zero, List.set_cons_succ]
        refine wpAnyH_ready (rs := [8, 10]) (by kernel_rfl) (by simp) ?_
        refine AllReadyH.cons rfl (fun K hK => ?bnf99) ?cnf99
        case bnf99 =>
          go_simp
          refine (HN.out _).mono ?_
          rintro e u99 ⟨rfl, hs, hb⟩
          obtain ⟨g8, hg⟩ : ∃ g, g = u98.heap.size := ⟨_, rfl⟩
          rw [← hg] at hs ⊢
          have F8 := Lib.hid (RF_.new HB.out.size hg hs)
          replace F2 := Lib.hid (F2.out.below hb)
          replace F4 := Lib.hid (F4.out.below hb)
          replace F6 := Lib.hid (F6.out.below hb)
          replace HB := Lib.hid (hbt HB.out hb)
          clear hb hg hs
          refine hK.out _ _ (True.intro) (fun hHeld99 => ?_)
          clear hK K
          try simp only [Act.put, List.getElem_toArray, List.getElem_cons_zero, List.getElem_cons_succ, List.setIfInBounds_toArray, List.set_cons_zero, List.set_cons_succ]
          refine wpAnyH_ready (rs := [10]) (by kernel_rfl) (by simp) ?_
          refine AllReadyH.cons rfl (fun K hK => ?_) AllReadyH.nil
          go_simp
          obtain ⟨g10, hg⟩ : ∃ g, g = u99.heap.size := ⟨_, rfl⟩
          obtain ⟨u100, hu⟩ : ∃ X, X = u99.alloc (.cells (madeCells #[.int .i64 0] n) 3) := ⟨_, rfl⟩
          have hb : Below u99.heap.size u99 u100 := by rw [hu]; exact (Below.refl _ _).alloc (Nat.le_refl _) _
          have D2_10 : g2 ≠ g10 := by have := F2.out.lt; omega
          have D4_10 : g4 ≠ g10 := by have := F4.out.lt; omega
          rw [← hg, ← hu]
          have F10 := Lib.hid (CF.new HB.out.size hg hu)
          replace F2 := Lib.hid (F2.out.below hb)
          replace F4 := Lib.hid (F4.out.below hb)
          replace F6 := Lib.hid (F6.out.below hb)
          replace F8 := Lib.hid (F8.out.below hb)
          replace HB := Lib.hid (hbt HB.out hb)
          clear hb hg hu
          refine hK.out _ _ (True.intro) (fun hHeld100 => ?_)
          clear hK K
          try simp only [Act.put, List.getElem_toArray, List.getElem_cons_zero, List.getElem_cons_succ, List.setIfInBounds_toArray, List.set_cons_zero, List.set_cons_succ]
          refine wpAnyH_take (i := 11) (v := ?_) rfl (by kernel_rfl) (by kernel_rfl) (by kernel_rfl) (fun _ _ _ h => h) (Or.inl ⟨by rfl, ?ynf101⟩) (by assumption) ?qnf101
          case ynf101 => (intro wz hSw; (try dsimp only at hSw); go_simp <;> with_reducible rfl)
          try simp only [Act.put, List.getElem_toArray, List.getElem_cons_zero, List.getElem_cons_succ, List.setIfInBounds_toArray, List.set_cons_zero, List.set_cons_succ]
          refine wpAnyH_ready (rs := [12]) (by kernel_rfl) (by simp) ?_
          refine AllReadyH.cons rfl (fun K hK => ?_) AllReadyH.nil
          go_simp
          refine hK.out _ _ (True.intro) (fun hHeld102 => ?_)
          clear hK K
          try simp only [Act.put, List.getElem_toArray, List.getElem_cons_zero, List.getElem_cons_succ, List.setIfInBounds_toArray, List.set_cons_zero, List.set_cons_succ]
          refine wpAnyH_take (i := 13) (v := ?_) rfl (by kernel_rfl) (by kernel_rfl) (by kernel_rfl) (fun _ _ _ h => h) (Or.inl ⟨by rfl, ?ynf103⟩) (by assumption) ?qnf103
          case ynf103 => (intro wz hSw; (try dsimp only at hSw); go_simp <;> with_reducible rfl)
          try simp only [Act.put, List.getElem_toArray, List.getElem_cons_zero, List.getElem_cons_succ, List.setIfInBounds_toArray, List.set_cons_zero, List.set_cons_succ]
          refine wpAnyH_done (by kernel_rfl) ?_ _
          go_wp2
          exact HKEY.out _ _ _ _ _ _ _ HB.out F2.out F4.out F10.out F6.out F8.out D2_4 D2_10 D4_10
        refine AllReadyH.cons rfl (fun K hK => ?bnf104) ?cnf104
        case bnf104 =>
          go_simp
          obtain ⟨g10, hg⟩ : ∃ g, g = u98.heap.size := ⟨_, rfl⟩
          obtain ⟨u104, hu⟩ : ∃ X, X = u98.alloc (.cells (madeCells #[.int .i64 0] n) 3) := ⟨_, rfl⟩
          have hb : Below u98.heap.size u98 u104 := by rw [hu]; exact (Below.refl _ _).alloc (Nat.le_refl _) _
          have D2_10 : g2 ≠ g10 := by have := F2.out.lt; omega
          have D4_10 : g4 ≠ g10 := by have := F4.out.lt; omega
          rw [← hg, ← hu]
          have F10 := Lib.hid (CF.new HB.out.size hg hu)
          replace F2 := Lib.hid (F2.out.below hb)
          replace F4 := Lib.hid (F4.out.below hb)
          replace F6 := Lib.hid (F6.out.below hb)
          replace HB := Lib.hid (hbt HB.out hb)
          clear hb hg hu
          refine hK.out _ _ (True.intro) (fun hHeld104 => ?_)
          clear hK K
          try simp only [Act.put, List.getElem_toArray, List.getElem_cons_zero, List.getElem_cons_succ, List.setIfInBounds_toArray, List.set_cons_zero, List.set_cons_succ]
          refine wpAnyH_ready (rs := [8]) (by kernel_rfl) (by simp) ?_
          refine AllReadyH.cons rfl (fun K hK => ?_) AllReadyH.nil
          go_simp
          refine (HN.out _).mono ?_
          rintro e u105 ⟨rfl, hs, hb⟩
          obtain ⟨g8, hg⟩ : ∃ g, g = u104.heap.size := ⟨_, rfl⟩
          rw [← hg] at hs ⊢
          have F8 := Lib.hid (RF_.new HB.out.size hg hs)
          replace F2 := Lib.hid (F2.out.below hb)
          replace F4 := Lib.hid (F4.out.below hb)
          replace F6 := Lib.hid (F6.out.below hb)
          replace F10 := Lib.hid (F10.out.below hb)
          replace HB := Lib.hid (hbt HB.out hb)
          clear hb hg hs
          refine hK.out _ _ (True.intro) (fun hHeld105 => ?_)
          clear hK K
          try simp only [Act.put, List.getElem_toArray, List.getElem_cons_zero, List.getElem_cons_succ, List.setIfInBounds_toArray, List.set_cons_zero, List.set_cons_succ]
          refine wpAnyH_take (i := 11) (v := ?_) rfl (by kernel_rfl) (by kernel_rfl) (by kernel_rfl) (fun _ _ _ h => h) (Or.inl ⟨by rfl, ?ynf106⟩) (by assumption) ?qnf106
          case ynf106 => (intro wz hSw; (try dsimp only at hSw); go_simp <;> with_reducible rfl)
          try simp only [Act.put, List.getElem_toArray, List.getElem_cons_zero, List.getElem_cons_succ, List.setIfInBounds_toArray, List.set_cons_zero, List.set_cons_succ]
          refine wpAnyH_ready (rs := [12]) (by kernel_rfl) (by simp) ?_
          refine AllReadyH.cons rfl (fun K hK => ?_) AllReadyH.nil
          go_simp
          refine hK.out _ _ (True.intro) (fun hHeld107 => ?_)
          clear hK K
          try simp only [Act.put, List.getElem_toArray, List.getElem_cons_zero, List.getElem_cons_succ, List.setIfInBounds_toArray, List.set_cons_zero, List.set_cons_succ]
          refine wpAnyH_take (i := 13) (v := ?_) rfl (by kernel_rfl) (by kernel_rfl) (by kernel_rfl) (fun _ _ _ h => h) (Or.inl ⟨by rfl, ?ynf108⟩) (by assumption) ?qnf108
          case ynf108 => (intro wz hSw; (try dsimp only at hSw); go_simp <;> with_reducible rfl)
          try simp only [Act.put, List.getElem_toArray, List.getElem_cons_zero, List.getElem_cons_succ, List.setIfInBounds_toArray, List.set_cons_zero, List.set_cons_succ]
          refine wpAnyH_done (by kernel_rfl) ?_ _
          go_wp2
          exact HKEY.out _ _ _ _ _ _ _ HB.out F2.out F4.out F10.out F6.out F8.out D2_4 D2_10 D4_10
        exact AllReadyH.nil
      refine AllReadyH.cons rfl (fun K hK => ?bnf109) ?cnf109
      case bnf109 =>
        go_simp
        refine (HN.out _).mono ?_
        rintro e u109 ⟨rfl, hs, hb⟩
        obtain ⟨g8, hg⟩ : ∃ g, g = u97.heap.size := ⟨_, rfl⟩
        rw [← hg] at hs ⊢
        have F8 := Lib.hid (RF_.new HB.out.size hg hs)
        replace F4 := Lib.hid (F4.out.below hb)
        replace F6 := Lib.hid (F6.out.below hb)
        replace HB := Lib.hid (hbt HB.out hb)
        clear hb hg hs
        refine hK.out _ _ (True.intro) (fun hHeld109 => ?_)
        clear hK K
        try simp only [Act.put, List.getElem_toArray, List.getElem_cons_zero, List.getElem_cons_succ, List.setIfInBounds_toArray, List.set_cons_zero, List.set_cons_succ]
        refine wpAnyH_ready (rs := [2, 10]) (by kernel_rfl) (by simp) ?_
        refine AllReadyH.cons rfl (fun K hK => ?bnf110) ?cnf110
        case bnf110 =>
          go_simp
          obtain ⟨g2, hg⟩ : ∃ g, g = u109.heap.size := ⟨_, rfl⟩
          obtain ⟨u110, hu⟩ : ∃ X, X = u109.alloc (.cells (madeCells #[.int .i64 0] n) 3) := ⟨_, rfl⟩
          have hb : Below u109.heap.size u109 u110 := by rw [hu]; exact (Below.refl _ _).alloc (Nat.le_refl _) _
          have D2_4 : g2 ≠ g4 := by have := F4.out.lt; omega
          rw [← hg, ← hu]
          have F2 := Lib.hid (CF.new HB.out.size hg hu)
          replace F4 := Lib.hid (F4.out.below hb)
          replace F6 := Lib.hid (F6.out.below hb)
          replace F8 := Lib.hid (F8.out.below hb)
          replace HB := Lib.hid (hbt HB.out hb)
          clear hb hg hu
          refine hK.out _ _ (True.intro) (fun hHeld110 => ?_)
          clear hK K
          try simp only [Act.put, List.getElem_toArray, List.getElem_cons_zero, List.getElem_cons_succ, List.setIfInBounds_toArray, List.set_cons_zero, List.set_cons_succ]
          refine wpAnyH_ready (rs := [10]) (by kernel_rfl) (by simp) ?_
          refine AllReadyH.cons rfl (fun K hK => ?_) AllReadyH.nil
          go_simp
          obtain ⟨g10, hg⟩ : ∃ g, g = u110.heap.size := ⟨_, rfl⟩
          obtain ⟨u111, hu⟩ : ∃ X, X = u110.alloc (.cells (madeCells #[.int .i64 0] n) 3) := ⟨_, rfl⟩
          have hb : Below u110.heap.size u110 u111 := by rw [hu]; exact (Below.refl _ _).alloc (Nat.le_refl _) _
          have D2_10 : g2 ≠ g10 := by have := F2.out.lt; omega
          have D4_10 : g4 ≠ g10 := by have := F4.out.lt; omega
          rw [← hg, ← hu]
          have F10 := Lib.hid (CF.new HB.out.size hg hu)
          replace F2 := Lib.hid (F2.out.below hb)
          replace F4 := Lib.hid (F4.out.below hb)
          replace F6 := Lib.hid (F6.out.below hb)
          replace F8 := Lib.hid (F8.out.below hb)
          replace HB := Lib.hid (hbt HB.out hb)
          clear hb hg hu
          refine hK.out _ _ (True.intro) (fun hHeld111 => ?_)
          clear hK K
          try simp only [Act.put, List.getElem_toArray, List.getElem_cons_zero, List.getElem_cons_succ, List.setIfInBounds_toArray, List.set_cons_zero, List.set_cons_succ]
          refine wpAnyH_take (i := 11) (v := ?_) rfl (by kernel_rfl) (by kernel_rfl) (by kernel_rfl) (fun _ _ _ h => h) (Or.inl ⟨by rfl, ?ynf112⟩) (by assumption) ?qnf112
          case ynf112 => (intro wz hSw; (try dsimp only at hSw); go_simp <;> with_reducible rfl)
          try simp only [Act.put, List.getElem_toArray, List.getElem_cons_zero, List.getElem_cons_succ, List.setIfInBounds_toArray, List.set_cons_zero, List.set_cons_succ]
          refine wpAnyH_ready (rs := [12]) (by kernel_rfl) (by simp) ?_
          refine AllReadyH.cons rfl (fun K hK => ?_) AllReadyH.nil
          go_simp
          refine hK.out _ _ (True.intro) (fun hHeld113 => ?_)
          clear hK K
          try simp only [Act.put, List.getElem_toArray, List.getElem_cons_zero, List.getElem_cons_succ, List.setIfInBounds_toArray, List.set_cons_zero, List.set_cons_succ]
          refine wpAnyH_take (i := 13) (v := ?_) rfl (by kernel_rfl) (by kernel_rfl) (by kernel_rfl) (fun _ _ _ h => h) (Or.inl ⟨by rfl, ?ynf114⟩) (by assumption) ?qnf114
          case ynf114 => (intro wz hSw; (try dsimp only at hSw); go_simp <;> with_reducible rfl)
          try simp only [Act.put, List.getElem_toArray, List.getElem_cons_zero, List.getElem_cons_succ, List.setIfInBounds_toArray, List.set_cons_zero, List.set_cons_succ]
          refine wpAnyH_done (by kernel_rfl) ?_ _
          go_wp2
          exact HKEY.out _ _ _ _ _ _ _ HB.out F2.out F4.out F10.out F6.out F8.out D2_4 D2_10 D4_10
        refine AllReadyH.cons rfl (fun K hK => ?bnf115) ?cnf115
        case bnf115 =>
          go_simp
          obtain ⟨g10, hg⟩ : ∃ g, g = u109.heap.size := ⟨_, rfl⟩
          obtain ⟨u115, hu⟩ : ∃ X, X = u109.alloc (.cells (madeCells #[.int .i64 0] n) 3) := ⟨_, rfl⟩
          have hb : Below u109.heap.size u109 u115 := by rw [hu]; exact (Below.refl _ _).alloc (Nat.le_refl _) _
          have D4_10 : g4 ≠ g10 := by have := F4.out.lt; omega
          rw [← hg, ← hu]
          have F10 := Lib.hid (CF.new HB.out.size hg hu)
          replace F4 := Lib.hid (F4.out.below hb)
          replace F6 := Lib.hid (F6.out.below hb)
          replace F8 := Lib.hid (F8.out.below hb)
          replace HB := Lib.hid (hbt HB.out hb)
          clear hb hg hu
          refine hK.out _ _ (True.intro) (fun hHeld115 => ?_)
          clear hK K
          try simp only [Act.put, List.getElem_toArray, List.getElem_cons_zero, List.getElem_cons_succ, List.setIfInBounds_toArray, List.set_cons_zero, List.set_cons_succ]
          refine wpAnyH_ready (rs := [2]) (by kernel_rfl) (by simp) ?_
          refine AllReadyH.cons rfl (fun K hK => ?_) AllReadyH.nil
          go_simp
          obtain ⟨g2, hg⟩ : ∃ g, g = u115.heap.size := ⟨_, rfl⟩
          obtain ⟨u116, hu⟩ : ∃ X, X = u115.alloc (.cells (madeCells #[.int .i64 0] n) 3) := ⟨_, rfl⟩
          have hb : Below u115.heap.size u115 u116 := by rw [hu]; exact (Below.refl _ _).alloc (Nat.le_refl _) _
          have D2_4 : g2 ≠ g4 := by have := F4.out.lt; omega
          have D2_10 : g2 ≠ g10 := by have := F10.out.lt; omega
          rw [← hg, ← hu]
          have F2 := Lib.hid (CF.new HB.out.size hg hu)
          replace F4 := Lib.hid (F4.out.below hb)
          replace F6 := Lib.hid (F6.out.below hb)
          replace F8 := Lib.hid (F8.out.below hb)
          replace F10 := Lib.hid (F10.out.below hb)
          replace HB := Lib.hid (hbt HB.out hb)
          clear hb hg hu
          refine hK.out _ _ (True.intro) (fun hHeld116 => ?_)
          clear hK K
          try simp only [Act.put, List.getElem_toArray, List.getElem_cons_zero, List.getElem_cons_succ, List.setIfInBounds_toArray, List.set_cons_zero, List.set_cons_succ]
          refine wpAnyH_take (i := 11) (v := ?_) rfl (by kernel_rfl) (by kernel_rfl) (by kernel_rfl) (fun _ _ _ h => h) (Or.inl ⟨by rfl, ?ynf117⟩) (by assumption) ?qnf117
          case ynf117 => (intro wz hSw; (try dsimp only at hSw); go_simp <;> with_reducible rfl)
          try simp only [Act.put, List.getElem_toArray, List.getElem_cons_zero, List.getElem_cons_succ, List.setIfInBounds_toArray, List.set_cons_zero, List.set_cons_succ]
          refine wpAnyH_ready (rs := [12]) (by kernel_rfl) (by simp) ?_
          refine AllReadyH.cons rfl (fun K hK => ?_) AllReadyH.nil
          go_simp
          refine hK.out _ _ (True.intro) (fun hHeld118 => ?_)
          clear hK K
          try simp only [Act.put, List.getElem_toArray, List.getElem_cons_zero, List.getElem_cons_succ, List.setIfInBounds_toArray, List.set_cons_zero, List.set_cons_succ]
          refine wpAnyH_take (i := 13) (v := ?_) rfl (by kernel_rfl) (by kernel_rfl) (by kernel_rfl) (fun _ _ _ h => h) (Or.inl ⟨by rfl, ?ynf119⟩) (by assumption) ?qnf119
          case ynf119 => (intro wz hSw; (try dsimp only at hSw); go_simp <;> with_reducible rfl)
          try simp only [Act.put, List.getElem_toArray, List.getElem_cons_zero, List.getElem_cons_succ, List.setIfInBounds_toArray, List.set_cons_zero, List.set_cons_succ]
          refine wpAnyH_done (by kernel_rfl) ?_ _
          go_wp2
          exact HKEY.out _ _ _ _ _ _ _ HB.out F2.out F4.out F10.out F6.out F8.out D2_4 D2_10 D4_10
        exact AllReadyH.nil
      refine AllReadyH.cons rfl (fun K hK => ?bnf120) ?cnf120
      case bnf120 =>
        go_simp
        obtain ⟨g10, hg⟩ : ∃ g, g = u97.heap.size := ⟨_, rfl⟩
        obtain ⟨u120, hu⟩ : ∃ X, X = u97.alloc (.cells (madeCells #[.int .i64 0] n) 3) := ⟨_, rfl⟩
        have hb : Below u97.heap.size u97 u120 := by rw [hu]; exact (Below.refl _ _).alloc (Nat.le_refl _) _
        have D4_10 : g4 ≠ g10 := by have := F4.out.lt; omega
        rw [← hg, ← hu]
        have F10 := Lib.hid (CF.new HB.out.size hg hu)
        replace F4 := Lib.hid (F4.out.below hb)
        replace F6 := Lib.hid (F6.out.below hb)
        replace HB := Lib.hid (hbt HB.out hb)
        clear hb hg hu
        refine hK.out _ _ (True.intro) (fun hHeld120 => ?_)
        clear hK K
        try simp only [Act.put, List.getElem_toArray, List.getElem_cons_zero, List.getElem_cons_succ, List.setIfInBounds_toArray, List.set_cons_zero, List.set_cons_succ]
        refine wpAnyH_ready (rs := [2, 8]) (by kernel_rfl) (by simp) ?_
        refine AllReadyH.cons rfl (fun K hK => ?bnf121) ?cnf121
        case bnf121 =>
          go_simp
          obtain ⟨g2, hg⟩ : ∃ g, g = u120.heap.size := ⟨_, rfl⟩
          obtain ⟨u121, hu⟩ : ∃ X, X = u120.alloc (.cells (madeCells #[.int .i64 0] n) 3) := ⟨_, rfl⟩
          have hb : Below u120.heap.size u120 u121 := by rw [hu]; exact (Below.refl _ _).alloc (Nat.le_refl _) _
          have D2_4 : g2 ≠ g4 := by have := F4.out.lt; omega
          have D2_10 : g2 ≠ g10 := by have := F10.out.lt; omega
          rw [← hg, ← hu]
          have F2 := Lib.hid (CF.new HB.out.size hg hu)
          replace F4 := Lib.hid (F4.out.below hb)
          replace F6 := Lib.hid (F6.out.below hb)
          replace F10 := Lib.hid (F10.out.below hb)
          replace HB := Lib.hid (hbt HB.out hb)
          clear hb hg hu
          refine hK.out _ _ (True.intro) (fun hHeld121 => ?_)
          clear hK K
          try simp only [Act.put, List.getElem_toArray, List.getElem_cons_zero, List.getElem_cons_succ, List.setIfInBounds_toArray, List.set_cons_zero, List.set_cons_succ]
          refine wpAnyH_ready (rs := [8]) (by kernel_rfl) (by simp) ?_
          refine AllReadyH.cons rfl (fun K hK => ?_) AllReadyH.nil
          go_simp
          refine (HN.out _).mono ?_
          rintro e u122 ⟨rfl, hs, hb⟩
          obtain ⟨g8, hg⟩ : ∃ g, g = u121.heap.size := ⟨_, rfl⟩
          rw [← hg] at hs ⊢
          have F8 := Lib.hid (RF_.new HB.out.size hg hs)
          replace F2 := Lib.hid (F2.out.below hb)
          replace F4 := Lib.hid (F4.out.below hb)
          replace F6 := Lib.hid (F6.out.below hb)
          replace F10 := Lib.hid (F10.out.below hb)
          replace HB := Lib.hid (hbt HB.out hb)
          clear hb hg hs
          refine hK.out _ _ (True.intro) (fun hHeld122 => ?_)
          clear hK K
          try simp only [Act.put, List.getElem_toArray, List.getElem_cons_zero, List.getElem_cons_succ, List.setIfInBounds_toArray, List.set_cons_zero, List.set_cons_succ]
          refine wpAnyH_take (i := 11) (v := ?_) rfl (by kernel_rfl) (by kernel_rfl) (by kernel_rfl) (fun _ _ _ h => h) (Or.inl ⟨by rfl, ?ynf123⟩) (by assumption) ?qnf123
          case ynf123 => (intro wz hSw; (try dsimp only at hSw); go_simp <;> with_reducible rfl)
          try simp only [Act.put, List.getElem_toArray, List.getElem_cons_zero, List.getElem_cons_succ, List.setIfInBounds_toArray, List.set_cons_zero, List.set_cons_succ]
          refine wpAnyH_ready (rs := [12]) (by kernel_rfl) (by simp) ?_
          refine AllReadyH.cons rfl (fun K hK => ?_) AllReadyH.nil
          go_simp
          refine hK.out _ _ (True.intro) (fun hHeld124 => ?_)
          clear hK K
          try simp only [Act.put, List.getElem_toArray, List.getElem_cons_zero, List.getElem_cons_succ, List.setIfInBounds_toArray, List.set_cons_zero, List.set_cons_succ]
          refine wpAnyH_take (i := 13) (v := ?_) rfl (by kernel_rfl) (by kernel_rfl) (by kernel_rfl) (fun _ _ _ h => h) (Or.inl ⟨by rfl, ?ynf125⟩) (by assumption) ?qnf125
          case ynf125 => (intro wz hSw; (try dsimp only at hSw); go_simp <;> with_reducible rfl)
          try simp only [Act.put, List.getElem_toArray, List.getElem_cons_zero, List.getElem_cons_succ, List.setIfInBounds_toArray, List.set_cons_zero, List.set_cons_succ]
          refine wpAnyH_done (by kernel_rfl) ?_ _
          go_wp2
          exact HKEY.out _ _ _ _ _ _ _ HB.out F2.out F4.out F10.out F6.out F8.out D2_4 D2_10 D4_10
        refine AllReadyH.cons rfl (fun K hK => ?bnf126) ?cnf126
        case bnf126 =>
          go_simp
          refine (HN.out _).mono ?_
          rintro e u126 ⟨rfl, hs, hb⟩
          obtain ⟨g8, hg⟩ : ∃ g, g = u120.heap.size := ⟨_, rfl⟩
          rw [← hg] at hs ⊢
          have F8 := Lib.hid (RF_.new HB.out.size hg hs)
          replace F4 := Lib.hid (F4.out.below hb)
          replace F6 := Lib.hid (F6.out.below hb)
          replace F10 := Lib.hid (F10.out.below hb)
          replace HB := Lib.hid (hbt HB.out hb)
          clear hb hg hs
          refine hK.out _ _ (True.intro) (fun hHeld126 => ?_)
          clear hK K
          try simp only [Act.put, List.getElem_toArray, List.getElem_cons_zero, List.getElem_cons_succ, List.setIfInBounds_toArray, List.set_cons_zero, List.set_cons_succ]
          refine wpAnyH_ready (rs := [2]) (by kernel_rfl) (by simp) ?_
          refine AllReadyH.cons rfl (fun K hK => ?_) AllReadyH.nil
          go_simp
          obtain ⟨g2, hg⟩ : ∃ g, g = u126.heap.size := ⟨_, rfl⟩
          obtain ⟨u127, hu⟩ : ∃ X, X = u126.alloc (.cells (madeCells #[.int .i64 0] n) 3) := ⟨_, rfl⟩
          have hb : Below u126.heap.size u126 u127 := by rw [hu]; exact (Below.refl _ _).alloc (Nat.le_refl _) _
          have D2_4 : g2 ≠ g4 := by have := F4.out.lt; omega
          have D2_10 : g2 ≠ g10 := by have := F10.out.lt; omega
          rw [← hg, ← hu]
          have F2 := Lib.hid (CF.new HB.out.size hg hu)
          replace F4 := Lib.hid (F4.out.below hb)
          replace F6 := Lib.hid (F6.out.below hb)
          replace F8 := Lib.hid (F8.out.below hb)
          replace F10 := Lib.hid (F10.out.below hb)
          replace HB := Lib.hid (hbt HB.out hb)
          clear hb hg hu
          refine hK.out _ _ (True.intro) (fun hHeld127 => ?_)
          clear hK K
          try simp only [Act.put, List.getElem_toArray, List.getElem_cons_zero, List.getElem_cons_succ, List.setIfInBounds_toArray, List.set_cons_zero, List.set_cons_succ]
          refine wpAnyH_take (i := 11) (v := ?_) rfl (by kernel_rfl) (by kernel_rfl) (by kernel_rfl) (fun _ _ _ h => h) (Or.inl ⟨by rfl, ?ynf128⟩) (by assumption) ?qnf128
          case ynf128 => (intro wz hSw; (try dsimp only at hSw); go_simp <;> with_reducible rfl)
          try simp only [Act.put, List.getElem_toArray, List.getElem_cons_zero, List.getElem_cons_succ, List.setIfInBounds_toArray, List.set_cons_zero, List.set_cons_succ]
          refine wpAnyH_ready (rs := [12]) (by kernel_rfl) (by simp) ?_
          refine AllReadyH.cons rfl (fun K hK => ?_) AllReadyH.nil
          go_simp
          refine hK.out _ _ (True.intro) (fun hHeld129 => ?_)
          clear hK K
          try simp only [Act.put, List.getElem_toArray, List.getElem_cons_zero, List.getElem_cons_succ, List.setIfInBounds_toArray, List.set_cons_zero, List.set_cons_succ]
          refine wpAnyH_take (i := 13) (v := ?_) rfl (by kernel_rfl) (by kernel_rfl) (by kernel_rfl) (fun _ _ _ h => h) (Or.inl ⟨by rfl, ?ynf130⟩) (by assumption) ?qnf130
          case ynf130 => (intro wz hSw; (try dsimp only at hSw); go_simp <;> with_reducible rfl)
          try simp only [Act.put, List.getElem_toArray, List.getElem_cons_zero, List.getElem_cons_succ, List.setIfInBounds_toArray, List.set_cons_zero, List.set_cons_succ]
          refine wpAnyH_done (by kernel_rfl) ?_ _
          go_wp2
          exact HKEY.out _ _ _ _ _ _ _ HB.out F2.out F4.out F10.out F6.out F8.out D2_4 D2_10 D4_10
        exact AllReadyH.nil
      exact AllReadyH.nil
    refine AllReadyH.cons rfl (fun K hK => ?bnf131) ?cnf131
    case bnf131 =>
      go_simp
      obtain ⟨g10, hg⟩ : ∃ g, g = u78.heap.size := ⟨_, rfl⟩
      obtain ⟨u131, hu⟩ : ∃ X, X = u78.alloc (.cells (madeCells #[.int .i64 0] n) 3) := ⟨_, rfl⟩
      have hb : Below u78.heap.size u78 u131 := by rw [hu]; exact (Below.refl _ _).alloc (Nat.le_refl _) _
      have D4_10 : g4 ≠ g10 := by have := F4.out.lt; omega
      rw [← hg, ← hu]
      have F10 := Lib.hid (CF.new HB.out.size hg hu)
      replace F4 := Lib.hid (F4.out.below hb)
      replace HB := Lib.hid (hbt HB.out hb)
      clear hb hg hu
      refine hK.out _ _ (True.intro) (fun hHeld131 => ?_)
      clear hK K
      try simp only [Act.put, List.getElem_toArray, List.getElem_cons_zero, List.getElem_cons_succ, List.setIfInBounds_toArray, List.set_cons_zero, List.set_cons_succ]
      refine wpAnyH_ready (rs := [2, 6]) (by kernel_rfl) (by simp) ?_
      refine AllReadyH.cons rfl (fun K hK => ?bnf132) ?cnf132
      case bnf132 =>
        go_simp
        obtain ⟨g2, hg⟩ : ∃ g, g = u131.heap.size := ⟨_, rfl⟩
        obtain ⟨u132, hu⟩ : ∃ X, X = u131.alloc (.cells (madeCells #[.int .i64 0] n) 3) := ⟨_, rfl⟩
        have hb : Below u131.heap.size u131 u132 := by rw [hu]; exact (Below.refl _ _).alloc (Nat.le_refl _) _
        have D2_4 : g2 ≠ g4 := by have := F4.out.lt; omega
        have D2_10 : g2 ≠ g10 := by have := F10.out.lt; omega
        rw [← hg, ← hu]
        have F2 := Lib.hid (CF.new HB.out.size hg hu)
        replace F4 := Lib.hid (F4.out.below hb)
        replace F10 := Lib.hid (F10.out.below hb)
        replace HB := Lib.hid (hbt HB.out hb)
        clear hb hg hu
        refine hK.out _ _ (True.intro) (fun hHeld132 => ?_)
        clear hK K
        try simp only [Act.put, List.getElem_toArray, List.getElem_cons_zero, List.getElem_cons_succ, List.setIfInBounds_toArray, List.set_cons_zero, List.set_cons_succ]
        refine wpAnyH_ready (rs := [6]) (by kernel_rfl) (by simp) ?_
        refine AllReadyH.cons rfl (fun K hK => ?_) AllReadyH.nil
        go_simp
        refine (HS.out _).mono ?_
        rintro e u133 ⟨rfl, hs, hb⟩
        obtain ⟨g6, hg⟩ : ∃ g, g = u132.heap.size := ⟨_, rfl⟩
        rw [← hg] at hs ⊢
        have F6 := Lib.hid (SF.new HB.out.size hg hs)
        replace F2 := Lib.hid (F2.out.below hb)
        replace F4 := Lib.hid (F4.out.below hb)
        replace F10 := Lib.hid (F10.out.below hb)
        replace HB := Lib.hid (hbt HB.out hb)
        clear hb hg hs
        refine hK.out _ _ (True.intro) (fun hHeld133 => ?_)
        clear hK K
        try simp only [Act.put, List.getElem_toArray, List.getElem_cons_zero, List.getElem_cons_succ, List.setIfInBounds_toArray, List.set_cons_zero, List.set_cons_succ]
        refine wpAnyH_ready (rs := [8]) (by kernel_rfl) (by simp) ?_
        refine AllReadyH.cons rfl (fun K hK => ?_) AllReadyH.nil
        go_simp
        refine (HN.out _).mono ?_
        rintro e u134 ⟨rfl, hs, hb⟩
        obtain ⟨g8, hg⟩ : ∃ g, g = u133.heap.size := ⟨_, rfl⟩
        rw [← hg] at hs ⊢
        have F8 := Lib.hid (RF_.new HB.out.size hg hs)
        replace F2 := Lib.hid (F2.out.below hb)
        replace F4 := Lib.hid (F4.out.below hb)
        replace F6 := Lib.hid (F6.out.below hb)
        replace F10 := Lib.hid (F10.out.below hb)
        replace HB := Lib.hid (hbt HB.out hb)
        clear hb hg hs
        refine hK.out _ _ (True.intro) (fun hHeld134 => ?_)
        clear hK K
        try simp only [Act.put, List.getElem_toArray, List.getElem_cons_zero, List.getElem_cons_succ, List.setIfInBounds_toArray, List.set_cons_zero, List.set_cons_succ]
        refine wpAnyH_take (i := 11) (v := ?_) rfl (by kernel_rfl) (by kernel_rfl) (by kernel_rfl) (fun _ _ _ h => h) (Or.inl ⟨by rfl, ?ynf135⟩) (by assumption) ?qnf135
        case ynf135 => (intro wz hSw; (try dsimp only at hSw); go_simp <;> with_reducible rfl)
        try simp only [Act.put, List.getElem_toArray, List.getElem_cons_zero, List.getElem_cons_succ, List.setIfInBounds_toArray, List.set_cons_zero, List.set_cons_succ]
        refine wpAnyH_ready (rs := [12]) (by kernel_rfl) (by simp) ?_
        refine AllReadyH.cons rfl (fun K hK => ?_) AllReadyH.nil
        go_simp
        refine hK.out _ _ (True.intro) (fun hHeld136 => ?_)
        clear hK K
        try simp only [Act.put, List.getElem_toArray, List.getElem_cons_zero, List.getElem_cons_succ, List.setIfInBounds_toArray, List.set_cons_zero, List.set_cons_succ]
        refine wpAnyH_take (i := 13) (v := ?_) rfl (by kernel_rfl) (by kernel_rfl) (by kernel_rfl) (fun _ _ _ h => h) (Or.inl ⟨by rfl, ?ynf137⟩) (by assumption) ?qnf137
        case ynf137 => (intro wz hSw; (try dsimp only at hSw); go_simp <;> with_reducible rfl)
        try simp only [Act.put, List.getElem_toArray, List.getElem_cons_zero, List.getElem_cons_succ, List.setIfInBounds_toArray, List.set_cons_zero, List.set_cons_succ]
        refine wpAnyH_done (by kernel_rfl) ?_ _
        go_wp2
        exact HKEY.out _ _ _ _ _ _ _ HB.out F2.out F4.out F10.out F6.out F8.out D2_4 D2_10 D4_10
      refine AllReadyH.cons rfl (fun K hK => ?bnf138) ?cnf138
      case bnf138 =>
        go_simp
        refine (HS.out _).mono ?_
        rintro e u138 ⟨rfl, hs, hb⟩
        obtain ⟨g6, hg⟩ : ∃ g, g = u131.heap.size := ⟨_, rfl⟩
        rw [← hg] at hs ⊢
        have F6 := Lib.hid (SF.new HB.out.size hg hs)
        replace F4 := Lib.hid (F4.out.below hb)
        replace F10 := Lib.hid (F10.out.below hb)
        replace HB := Lib.hid (hbt HB.out hb)
        clear hb hg hs
        refine hK.out _ _ (True.intro) (fun hHeld138 => ?_)
        clear hK K
        try simp only [Act.put, List.getElem_toArray, List.getElem_cons_zero, List.getElem_cons_succ, List.setIfInBounds_toArray, List.set_cons_zero, List.set_cons_succ]
        refine wpAnyH_ready (rs := [2, 8]) (by kernel_rfl) (by simp) ?_
        refine AllReadyH.cons rfl (fun K hK => ?bnf139) ?cnf139
        case bnf139 =>
          go_simp
          obtain ⟨g2, hg⟩ : ∃ g, g = u138.heap.size := ⟨_, rfl⟩
          obtain ⟨u139, hu⟩ : ∃ X, X = u138.alloc (.cells (madeCells #[.int .i64 0] n) 3) := ⟨_, rfl⟩
          have hb : Below u138.heap.size u138 u139 := by rw [hu]; exact (Below.refl _ _).alloc (Nat.le_refl _) _
          have D2_4 : g2 ≠ g4 := by have := F4.out.lt; omega
          have D2_10 : g2 ≠ g10 := by have := F10.out.lt; omega
          rw [← hg, ← hu]
          have F2 := Lib.hid (CF.new HB.out.size hg hu)
          replace F4 := Lib.hid (F4.out.below hb)
          replace F6 := Lib.hid (F6.out.below hb)
          replace F10 := Lib.hid (F10.out.below hb)
          replace HB := Lib.hid (hbt HB.out hb)
          clear hb hg hu
          refine hK.out _ _ (True.intro) (fun hHeld139 => ?_)
          clear hK K
          try simp only [Act.put, List.getElem_toArray, List.getElem_cons_zero, List.getElem_cons_succ, List.setIfInBounds_toArray, List.set_cons_zero, List.set_cons_succ]
          refine wpAnyH_ready (rs := [8]) (by kernel_rfl) (by simp) ?_
          refine AllReadyH.cons rfl (fun K hK => ?_) AllReadyH.nil
          go_simp
          refine (HN.out _).mono ?_
          rintro e u140 ⟨rfl, hs, hb⟩
          obtain ⟨g8, hg⟩ : ∃ g, g = u139.heap.size := ⟨_, rfl⟩
          rw [← hg] at hs ⊢
          have F8 := Lib.hid (RF_.new HB.out.size hg hs)
          replace F2 := Lib.hid (F2.out.below hb)
          replace F4 := Lib.hid (F4.out.below hb)
          replace F6 := Lib.hid (F6.out.below hb)
          replace F10 := Lib.hid (F10.out.below hb)
          replace HB := Lib.hid (hbt HB.out hb)
          clear hb hg hs
          refine hK.out _ _ (True.intro) (fun hHeld140 => ?_)
          clear hK K
          try simp only [Act.put, List.getElem_toArray, List.getElem_cons_zero, List.getElem_cons_succ, List.setIfInBounds_toArray, List.set_cons_zero, List.set_cons_succ]
          refine wpAnyH_take (i := 11) (v := ?_) rfl (by kernel_rfl) (by kernel_rfl) (by kernel_rfl) (fun _ _ _ h => h) (Or.inl ⟨by rfl, ?ynf141⟩) (by assumption) ?qnf141
          case ynf141 => (intro wz hSw; (try dsimp only at hSw); go_simp <;> with_reducible rfl)
          try simp only [Act.put, List.getElem_toArray, List.getElem_cons_zero, List.getElem_cons_succ, List.setIfInBounds_toArray, List.set_cons_zero, List.set_cons_succ]
          refine wpAnyH_ready (rs := [12]) (by kernel_rfl) (by simp) ?_
          refine AllReadyH.cons rfl (fun K hK => ?_) AllReadyH.nil
          go_simp
          refine hK.out _ _ (True.intro) (fun hHeld142 => ?_)
          clear hK K
          try simp only [Act.put, List.getElem_toArray, List.getElem_cons_zero, List.getElem_cons_succ, List.setIfInBounds_toArray, List.set_cons_zero, List.set_cons_succ]
          refine wpAnyH_take (i := 13) (v := ?_) rfl (by kernel_rfl) (by kernel_rfl) (by kernel_rfl) (fun _ _ _ h => h) (Or.inl ⟨by rfl, ?ynf143⟩) (by assumption) ?qnf143
          case ynf143 => (intro wz hSw; (try dsimp only at hSw); go_simp <;> with_reducible rfl)
          try simp only [Act.put, List.getElem_toArray, List.getElem_cons_zero, List.getElem_cons_succ, List.setIfInBounds_toArray, List.set_cons_zero, List.set_cons_succ]
          refine wpAnyH_done (by kernel_rfl) ?_ _
          go_wp2
          exact HKEY.out _ _ _ _ _ _ _ HB.out F2.out F4.out F10.out F6.out F8.out D2_4 D2_10 D4_10
        refine AllReadyH.cons rfl (fun K hK => ?bnf144) ?cnf144
        case bnf144 =>
          go_simp
          refine (HN.out _).mono ?_
          rintro e u144 ⟨rfl, hs, hb⟩
          obtain ⟨g8, hg⟩ : ∃ g, g = u138.heap.size := ⟨_, rfl⟩
          rw [← hg] at hs ⊢
          have F8 := Lib.hid (RF_.new HB.out.size hg hs)
          replace F4 := Lib.hid (F4.out.below hb)
          replace F6 := Lib.hid (F6.out.below hb)
          replace F10 := Lib.hid (F10.out.below hb)
          replace HB := Lib.hid (hbt HB.out hb)
          clear hb hg hs
          refine hK.out _ _ (True.intro) (fun hHeld144 => ?_)
          clear hK K
          try simp only [Act.put, List.getElem_toArray, List.getElem_cons_zero, List.getElem_cons_succ, List.setIfInBounds_toArray, List.set_cons_zero, List.set_cons_succ]
          refine wpAnyH_ready (rs := [2]) (by kernel_rfl) (by simp) ?_
          refine AllReadyH.cons rfl (fun K hK => ?_) AllReadyH.nil
          go_simp
          obtain ⟨g2, hg⟩ : ∃ g, g = u144.heap.size := ⟨_, rfl⟩
          obtain ⟨u145, hu⟩ : ∃ X, X = u144.alloc (.cells (madeCells #[.int .i64 0] n) 3) := ⟨_, rfl⟩
          have hb : Below u144.heap.size u144 u145 := by rw [hu]; exact (Below.refl _ _).alloc (Nat.le_refl _) _
          have D2_4 : g2 ≠ g4 := by have := F4.out.lt; omega
          have D2_10 : g2 ≠ g10 := by have := F10.out.lt; omega
          rw [← hg, ← hu]
          have F2 := Lib.hid (CF.new HB.out.size hg hu)
          replace F4 := Lib.hid (F4.out.below hb)
          replace F6 := Lib.hid (F6.out.below hb)
          replace F8 := Lib.hid (F8.out.below hb)
          replace F10 := Lib.hid (F10.out.below hb)
          replace HB := Lib.hid (hbt HB.out hb)
          clear hb hg hu
          refine hK.out _ _ (True.intro) (fun hHeld145 => ?_)
          clear hK K
          try simp only [Act.put, List.getElem_toArray, List.getElem_cons_zero, List.getElem_cons_succ, List.setIfInBounds_toArray, List.set_cons_zero, List.set_cons_succ]
          refine wpAnyH_take (i := 11) (v := ?_) rfl (by kernel_rfl) (by kernel_rfl) (by kernel_rfl) (fun _ _ _ h => h) (Or.inl ⟨by rfl, ?ynf146⟩) (by assumption) ?qnf146
          case ynf146 => (intro wz hSw; (try dsimp only at hSw); go_simp <;> with_reducible rfl)
          try simp only [Act.put, List.getElem_toArray, List.getElem_cons_zero, List.getElem_cons_succ, List.setIfInBounds_toArray, List.set_cons_zero, List.set_cons_succ]
          refine wpAnyH_ready (rs := [12]) (by kernel_rfl) (by simp) ?_
          refine AllReadyH.cons rfl (fun K hK => ?_) AllReadyH.nil
          go_simp
          refine hK.out _ _ (True.intro) (fun hHeld147 => ?_)
          clear hK K
          try simp only [Act.put, List.getElem_toArray, List.getElem_cons_zero, List.getElem_cons_succ, List.setIfInBounds_toArray, List.set_cons_zero, List.set_cons_succ]
          refine wpAnyH_take (i := 13) (v := ?_) rfl (by kernel_rfl) (by kernel_rfl) (by kernel_rfl) (fun _ _ _ h => h) (Or.inl ⟨by rfl, ?ynf148⟩) (by assumption) ?qnf148
          case ynf148 => (intro wz hSw; (try dsimp only at hSw); go_simp <;> with_reducible rfl)
          try simp only [Act.put, List.getElem_toArray, List.getElem_cons_zero, List.getElem_cons_succ, List.setIfInBounds_toArray, List.set_cons_zero, List.set_cons_succ]
          refine wpAnyH_done (by kernel_rfl) ?_ _
          go_wp2
          exact HKEY.out _ _ _ _ _ _ _ HB.out F2.out F4.out F10.out F6.out F8.out D2_4 D2_10 D4_10
        exact AllReadyH.nil
      exact AllReadyH.nil
    exact AllReadyH.nil
  refine AllReadyH.cons rfl (fun K hK => ?bnf149) ?cnf149
  case bnf149 =>
    go_simp
    refine (HS.out _).mono ?_
    rintro e u149 ⟨rfl, hs, hb⟩
    obtain ⟨g6, hg⟩ : ∃ g, g = U0.heap.size := ⟨_, rfl⟩
    rw [← hg] at hs ⊢
    have F6 := Lib.hid (SF.new HB.out.size hg hs)
    replace HB := Lib.hid (hbt HB.out hb)
    clear hb hg hs
    refine hK.out _ _ (True.intro) (fun hHeld149 => ?_)
    clear hK K
    try simp only [Act.put, List.getElem_toArray, List.getElem_cons_zero, List.getElem_cons_succ, List.setIfInBounds_toArray, List.set_cons_zero, List.set_cons_succ]
    refine wpAnyH_ready (rs := [2, 4, 8, 10]) (by kernel_rfl) (by simp) ?_
    refine AllReadyH.cons rfl (fun K hK => ?bnf150) ?cnf150
    case bnf150 =>
      go_simp
      obtain ⟨g2, hg⟩ : ∃ g, g = u149.heap.size := ⟨_, rfl⟩
      obtain ⟨u150, hu⟩ : ∃ X, X = u149.alloc (.cells (madeCells #[.int .i64 0] n) 3) := ⟨_, rfl⟩
      have hb : Below u149.heap.size u149 u150 := by rw [hu]; exact (Below.refl _ _).alloc (Nat.le_refl _) _
      rw [← hg, ← hu]
      have F2 := Lib.hid (CF.new HB.out.size hg hu)
      replace F6 := Lib.hid (F6.out.below hb)
      replace HB := Lib.hid (hbt HB.out hb)
      clear hb hg hu
      refine hK.out _ _ (True.intro) (fun hHeld150 => ?_)
      clear hK K
      try simp only [Act.put, List.getElem_toArray, List.getElem_cons_zero, List.getElem_cons_succ, List.setIfInBounds_toArray, List.set_cons_zero, List.set_cons_succ]
      refine wpAnyH_ready (rs := [4, 8, 10]) (by kernel_rfl) (by simp) ?_
      refine AllReadyH.cons rfl (fun K hK => ?bnf151) ?cnf151
      case bnf151 =>
        go_simp
        obtain ⟨g4, hg⟩ : ∃ g, g = u150.heap.size := ⟨_, rfl⟩
        obtain ⟨u151, hu⟩ : ∃ X, X = u150.alloc (.cells (madeCells #[.int .i64 0] n) 3) := ⟨_, rfl⟩
        have hb : Below u150.heap.size u150 u151 := by rw [hu]; exact (Below.refl _ _).alloc (Nat.le_refl _) _
        have D2_4 : g2 ≠ g4 := by have := F2.out.lt; omega
        rw [← hg, ← hu]
        have F4 := Lib.hid (CF.new HB.out.size hg hu)
        replace F2 := Lib.hid (F2.out.below hb)
        replace F6 := Lib.hid (F6.out.below hb)
        replace HB := Lib.hid (hbt HB.out hb)
        clear hb hg hu
        refine hK.out _ _ (True.intro) (fun hHeld151 => ?_)
        clear hK K
        try simp only [Act.put, List.getElem_toArray, List.getElem_cons_zero, List.getElem_cons_succ, List.setIfInBounds_toArray, List.set_cons_zero, List.set_cons_succ]
        refine wpAnyH_ready (rs := [8, 10]) (by kernel_rfl) (by simp) ?_
        refine AllReadyH.cons rfl (fun K hK => ?bnf152) ?cnf152
        case bnf152 =>
          go_simp
          refine (HN.out _).mono ?_
          rintro e u152 ⟨rfl, hs, hb⟩
          obtain ⟨g8, hg⟩ : ∃ g, g = u151.heap.size := ⟨_, rfl⟩
          rw [← hg] at hs ⊢
          have F8 := Lib.hid (RF_.new HB.out.size hg hs)
          replace F2 := Lib.hid (F2.out.below hb)
          replace F4 := Lib.hid (F4.out.below hb)
          replace F6 := Lib.hid (F6.out.below hb)
          replace HB := Lib.hid (hbt HB.out hb)
          clear hb hg hs
          refine hK.out _ _ (True.intro) (fun hHeld152 => ?_)
          clear hK K
          try simp only [Act.put, List.getElem_toArray, List.getElem_cons_zero, List.getElem_cons_succ, List.setIfInBounds_toArray, List.set_cons_zero, List.set_cons_succ]
          refine wpAnyH_ready (rs := [10]) (by kernel_rfl) (by simp) ?_
          refine AllReadyH.cons rfl (fun K hK => ?_) AllReadyH.nil
          go_simp
          obtain ⟨g10, hg⟩ : ∃ g, g = u152.heap.size := ⟨_, rfl⟩
          obtain ⟨u153, hu⟩ : ∃ X, X = u152.alloc (.cells (madeCells #[.int .i64 0] n) 3) := ⟨_, rfl⟩
          have hb : Below u152.heap.size u152 u153 := by rw [hu]; exact (Below.refl _ _).alloc (Nat.le_refl _) _
          have D2_10 : g2 ≠ g10 := by have := F2.out.lt; omega
          have D4_10 : g4 ≠ g10 := by have := F4.out.lt; omega
          rw [← hg, ← hu]
          have F10 := Lib.hid (CF.new HB.out.size hg hu)
          replace F2 := Lib.hid (F2.out.below hb)
          replace F4 := Lib.hid (F4.out.below hb)
          replace F6 := Lib.hid (F6.out.below hb)
          replace F8 := Lib.hid (F8.out.below hb)
          replace HB := Lib.hid (hbt HB.out hb)
          clear hb hg hu
          refine hK.out _ _ (True.intro) (fun hHeld153 => ?_)
          clear hK K
          try simp only [Act.put, List.getElem_toArray, List.getElem_cons_zero, List.getElem_cons_succ, List.setIfInBounds_toArray, List.set_cons_zero, List.set_cons_succ]
          refine wpAnyH_take (i := 11) (v := ?_) rfl (by kernel_rfl) (by kernel_rfl) (by kernel_rfl) (fun _ _ _ h => h) (Or.inl ⟨by rfl, ?ynf154⟩) (by assumption) ?qnf154
          case ynf154 => (intro wz hSw; (try dsimp only at hSw); go_simp <;> with_reducible rfl)
          try simp only [Act.put, List.getElem_toArray, List.getElem_cons_zero, List.getElem_cons_succ, List.setIfInBounds_toArray, List.set_cons_zero, List.set_cons_succ]
          refine wpAnyH_ready (rs := [12]) (by kernel_rfl) (by simp) ?_
          refine AllReadyH.cons rfl (fun K hK => ?_) AllReadyH.nil
          go_simp
          refine hK.out _ _ (True.intro) (fun hHeld155 => ?_)
          clear hK K
          try simp only [Act.put, List.getElem_toArray, List.getElem_cons_zero, List.getElem_cons_succ, List.setIfInBounds_toArray, List.set_cons_zero, List.set_cons_succ]
          refine wpAnyH_take (i := 13) (v := ?_) rfl (by kernel_rfl) (by kernel_rfl) (by kernel_rfl) (fun _ _ _ h => h) (Or.inl ⟨by rfl, ?ynf156⟩) (by assumption) ?qnf156
          case ynf156 => (intro wz hSw; (try dsimp only at hSw); go_simp <;> with_reducible rfl)
          try simp only [Act.put, List.getElem_toArray, List.getElem_cons_zero, List.getElem_cons_succ, List.setIfInBounds_toArray, List.set_cons_zero, List.set_cons_succ]
          refine wpAnyH_done (by kernel_rfl) ?_ _
          go_wp2
          exact HKEY.out _ _ _ _ _ _ _ HB.out F2.out F4.out F10.out F6.out F8.out D2_4 D2_10 D4_10
        refine AllReadyH.cons rfl (fun K hK => ?bnf157) ?cnf157
        case bnf157 =>
          go_simp
          obtain ⟨g10, hg⟩ : ∃ g, g = u151.heap.size := ⟨_, rfl⟩
          obtain ⟨u157, hu⟩ : ∃ X, X = u151.alloc (.cells (madeCells #[.int .i64 0] n) 3) := ⟨_, rfl⟩
          have hb : Below u151.heap.size u151 u157 := by rw [hu]; exact (Below.refl _ _).alloc (Nat.le_refl _) _
          have D2_10 : g2 ≠ g10 := by have := F2.out.lt; omega
          have D4_10 : g4 ≠ g10 := by have := F4.out.lt; omega
          rw [← hg, ← hu]
          have F10 := Lib.hid (CF.new HB.out.size hg hu)
          replace F2 := Lib.hid (F2.out.below hb)
          replace F4 := Lib.hid (F4.out.below hb)
          replace F6 := Lib.hid (F6.out.below hb)
          replace HB := Lib.hid (hbt HB.out hb)
          clear hb hg hu
          refine hK.out _ _ (True.intro) (fun hHeld157 => ?_)
          clear hK K
          try simp only [Act.put, List.getElem_toArray, List.getElem_cons_zero, List.getElem_cons_succ, List.setIfInBounds_toArray, List.set_cons_zero, List.set_cons_succ]
          refine wpAnyH_ready (rs := [8]) (by kernel_rfl) (by simp) ?_
          refine AllReadyH.cons rfl (fun K hK => ?_) AllReadyH.nil
          go_simp
          refine (HN.out _).mono ?_
          rintro e u158 ⟨rfl, hs, hb⟩
          obtain ⟨g8, hg⟩ : ∃ g, g = u157.heap.size := ⟨_, rfl⟩
          rw [← hg] at hs ⊢
          have F8 := Lib.hid (RF_.new HB.out.size hg hs)
          replace F2 := Lib.hid (F2.out.below hb)
          replace F4 := Lib.hid (F4.out.below hb)
          replace F6 := Lib.hid (F6.out.below hb)
          replace F10 := Lib.hid (F10.out.below hb)
          replace HB := Lib.hid (hbt HB.out hb)
          clear hb hg hs
          refine hK.out _ _ (True.intro) (fun hHeld158 => ?_)
          clear hK K
          try simp only [Act.put, List.getElem_toArray, List.getElem_cons_zero, List.getElem_cons_succ, List.setIfInBounds_toArray, List.set_cons_zero, List.set_cons_succ]
          refine wpAnyH_take (i := 11) (v := ?_) rfl (by kernel_rfl) (by kernel_rfl) (by kernel_rfl) (fun _ _ _ h => h) (Or.inl ⟨by rfl, ?ynf159⟩) (by assumption) ?qnf159
          case ynf159 => (intro wz hSw; (try dsimp only at hSw); go_simp <;> with_reducible rfl)
          try simp only [Act.put, List.getElem_toArray, List.getElem_cons_zero, List.getElem_cons_succ, List.setIfInBounds_toArray, List.set_cons_zero, List.set_cons_succ]
          refine wpAnyH_ready (rs := [12]) (by kernel_rfl) (by simp) ?_
          refine AllReadyH.cons rfl (fun K hK => ?_) AllReadyH.nil
          go_simp
          refine hK.out _ _ (True.intro) (fun hHeld160 => ?_)
          clear hK K
          try simp only [Act.put, List.getElem_toArray, List.getElem_cons_zero, List.getElem_cons_succ, List.setIfInBounds_toArray, List.set_cons_zero, List.set_cons_succ]
          refine wpAnyH_take (i := 13) (v := ?_) rfl (by kernel_rfl) (by kernel_rfl) (by kernel_rfl) (fun _ _ _ h => h) (Or.inl ⟨by rfl, ?ynf161⟩) (by assumption) ?qnf161
          case ynf161 => (intro wz hSw; (try dsimp only at hSw); go_simp <;> with_reducible rfl)
          try simp only [Act.put, List.getElem_toArray, List.getElem_cons_zero, List.getElem_cons_succ, List.setIfInBounds_toArray, List.set_cons_zero, List.set_cons_succ]
          refine wpAnyH_done (by kernel_rfl) ?_ _
          go_wp2
          exact HKEY.out _ _ _ _ _ _ _ HB.out F2.out F4.out F10.out F6.out F8.out D2_4 D2_10 D4_10
        exact AllReadyH.nil
      refine AllReadyH.cons rfl (fun K hK => ?bnf162) ?cnf162
      case bnf162 =>
        go_simp
        refine (HN.out _).mono ?_
        rintro e u162 ⟨rfl, hs, hb⟩
        obtain ⟨g8, hg⟩ : ∃ g, g = u150.heap.size := ⟨_, rfl⟩
        rw [← hg] at hs ⊢
        have F8 := Lib.hid (RF_.new HB.out.size hg hs)
        replace F2 := Lib.hid (F2.out.below hb)
        replace F6 := Lib.hid (F6.out.below hb)
        replace HB := Lib.hid (hbt HB.out hb)
        clear hb hg hs
        refine hK.out _ _ (True.intro) (fun hHeld162 => ?_)
        clear hK K
        try simp only [Act.put, List.getElem_toArray, List.getElem_cons_zero, List.getElem_cons_succ, List.setIfInBounds_toArray, List.set_cons_zero, List.set_cons_succ]
        refine wpAnyH_ready (rs := [4, 10]) (by kernel_rfl) (by simp) ?_
        refine AllReadyH.cons rfl (fun K hK => ?bnf163) ?cnf163
        case bnf163 =>
          go_simp
          obtain ⟨g4, hg⟩ : ∃ g, g = u162.heap.size := ⟨_, rfl⟩
          obtain ⟨u163, hu⟩ : ∃ X, X = u162.alloc (.cells (madeCells #[.int .i64 0] n) 3) := ⟨_, rfl⟩
          have hb : Below u162.heap.size u162 u163 := by rw [hu]; exact (Below.refl _ _).alloc (Nat.le_refl _) _
          have D2_4 : g2 ≠ g4 := by have := F2.out.lt; omega
          rw [← hg, ← hu]
          have F4 := Lib.hid (CF.new HB.out.size hg hu)
          replace F2 := Lib.hid (F2.out.below hb)
          replace F6 := Lib.hid (F6.out.below hb)
          replace F8 := Lib.hid (F8.out.below hb)
          replace HB := Lib.hid (hbt HB.out hb)
          clear hb hg hu
          refine hK.out _ _ (True.intro) (fun hHeld163 => ?_)
          clear hK K
          try simp only [Act.put, List.getElem_toArray, List.getElem_cons_zero, List.getElem_cons_succ, List.setIfInBounds_toArray, List.set_cons_zero, List.set_cons_succ]
          refine wpAnyH_ready (rs := [10]) (by kernel_rfl) (by simp) ?_
          refine AllReadyH.cons rfl (fun K hK => ?_) AllReadyH.nil
          go_simp
          obtain ⟨g10, hg⟩ : ∃ g, g = u163.heap.size := ⟨_, rfl⟩
          obtain ⟨u164, hu⟩ : ∃ X, X = u163.alloc (.cells (madeCells #[.int .i64 0] n) 3) := ⟨_, rfl⟩
          have hb : Below u163.heap.size u163 u164 := by rw [hu]; exact (Below.refl _ _).alloc (Nat.le_refl _) _
          have D2_10 : g2 ≠ g10 := by have := F2.out.lt; omega
          have D4_10 : g4 ≠ g10 := by have := F4.out.lt; omega
          rw [← hg, ← hu]
          have F10 := Lib.hid (CF.new HB.out.size hg hu)
          replace F2 := Lib.hid (F2.out.below hb)
          replace F4 := Lib.hid (F4.out.below hb)
          replace F6 := Lib.hid (F6.out.below hb)
          replace F8 := Lib.hid (F8.out.below hb)
          replace HB := Lib.hid (hbt HB.out hb)
          clear hb hg hu
          refine hK.out _ _ (True.intro) (fun hHeld164 => ?_)
          clear hK K
          try simp only [Act.put, List.getElem_toArray, List.getElem_cons_zero, List.getElem_cons_succ, List.setIfInBounds_toArray, List.set_cons_zero, List.set_cons_succ]
          refine wpAnyH_take (i := 11) (v := ?_) rfl (by kernel_rfl) (by kernel_rfl) (by kernel_rfl) (fun _ _ _ h => h) (Or.inl ⟨by rfl, ?ynf165⟩) (by assumption) ?qnf165
          case ynf165 => (intro wz hSw; (try dsimp only at hSw); go_simp <;> with_reducible rfl)
          try simp only [Act.put, List.getElem_toArray, List.getElem_cons_zero, List.getElem_cons_succ, List.setIfInBounds_toArray, List.set_cons_zero, List.set_cons_succ]
          refine wpAnyH_ready (rs := [12]) (by kernel_rfl) (by simp) ?_
          refine AllReadyH.cons rfl (fun K hK => ?_) AllReadyH.nil
          go_simp
          refine hK.out _ _ (True.intro) (fun hHeld166 => ?_)
          clear hK K
          try simp only [Act.put, List.getElem_toArray, List.getElem_cons_zero, List.getElem_cons_succ, List.setIfInBounds_toArray, List.set_cons_zero, List.set_cons_succ]
          refine wpAnyH_take (i := 13) (v := ?_) rfl (by kernel_rfl) (by kernel_rfl) (by kernel_rfl) (fun _ _ _ h => h) (Or.inl ⟨by rfl, ?ynf167⟩) (by assumption) ?qnf167
          case ynf167 => (intro wz hSw; (try dsimp only at hSw); go_simp <;> with_reducible rfl)
          try simp only [Act.put, List.getElem_toArray, List.getElem_cons_zero, List.getElem_cons_succ, List.setIfInBounds_toArray, List.set_cons_zero, List.set_cons_succ]
          refine wpAnyH_done (by kernel_rfl) ?_ _
          go_wp2
          exact HKEY.out _ _ _ _ _ _ _ HB.out F2.out F4.out F10.out F6.out F8.out D2_4 D2_10 D4_10
        refine AllReadyH.cons rfl (fun K hK => ?bnf168) ?cnf168
        case bnf168 =>
          go_simp
          obtain ⟨g10, hg⟩ : ∃ g, g = u162.heap.size := ⟨_, rfl⟩
          obtain ⟨u168, hu⟩ : ∃ X, X = u162.alloc (.cells (madeCells #[.int .i64 0] n) 3) := ⟨_, rfl⟩
          have hb : Below u162.heap.size u162 u168 := by rw [hu]; exact (Below.refl _ _).alloc (Nat.le_refl _) _
          have D2_10 : g2 ≠ g10 := by have := F2.out.lt; omega
          rw [← hg, ← hu]
          have F10 := Lib.hid (CF.new HB.out.size hg hu)
          replace F2 := Lib.hid (F2.out.below hb)
          replace F6 := Lib.hid (F6.out.below hb)
          replace F8 := Lib.hid (F8.out.below hb)
          replace HB := Lib.hid (hbt HB.out hb)
          clear hb hg hu
          refine hK.out _ _ (True.intro) (fun hHeld168 => ?_)
          clear hK K
          try simp only [Act.put, List.getElem_toArray, List.getElem_cons_zero, List.getElem_cons_succ, List.setIfInBounds_toArray, List.set_cons_zero, List.set_cons_succ]
          refine wpAnyH_ready (rs := [4]) (by kernel_rfl) (by simp) ?_
          refine AllReadyH.cons rfl (fun K hK => ?_) AllReadyH.nil
          go_simp
          obtain ⟨g4, hg⟩ : ∃ g, g = u168.heap.size := ⟨_, rfl⟩
          obtain ⟨u169, hu⟩ : ∃ X, X = u168.alloc (.cells (madeCells #[.int .i64 0] n) 3) := ⟨_, rfl⟩
          have hb : Below u168.heap.size u168 u169 := by rw [hu]; exact (Below.refl _ _).alloc (Nat.le_refl _) _
          have D2_4 : g2 ≠ g4 := by have := F2.out.lt; omega
          have D4_10 : g4 ≠ g10 := by have := F10.out.lt; omega
          rw [← hg, ← hu]
          have F4 := Lib.hid (CF.new HB.out.size hg hu)
          replace F2 := Lib.hid (F2.out.below hb)
          replace F6 := Lib.hid (F6.out.below hb)
          replace F8 := Lib.hid (F8.out.below hb)
          replace F10 := Lib.hid (F10.out.below hb)
          replace HB := Lib.hid (hbt HB.out hb)
          clear hb hg hu
          refine hK.out _ _ (True.intro) (fun hHeld169 => ?_)
          clear hK K
          try simp only [Act.put, List.getElem_toArray, List.getElem_cons_zero, List.getElem_cons_succ, List.setIfInBounds_toArray, List.set_cons_zero, List.set_cons_succ]
          refine wpAnyH_take (i := 11) (v := ?_) rfl (by kernel_rfl) (by kernel_rfl) (by kernel_rfl) (fun _ _ _ h => h) (Or.inl ⟨by rfl, ?ynf170⟩) (by assumption) ?qnf170
          case ynf170 => (intro wz hSw; (try dsimp only at hSw); go_simp <;> with_reducible rfl)
          try simp only [Act.put, List.getElem_toArray, List.getElem_cons_zero, List.getElem_cons_succ, List.setIfInBounds_toArray, List.set_cons_zero, List.set_cons_succ]
          refine wpAnyH_ready (rs := [12]) (by kernel_rfl) (by simp) ?_
          refine AllReadyH.cons rfl (fun K hK => ?_) AllReadyH.nil
          go_simp
          refine hK.out _ _ (True.intro) (fun hHeld171 => ?_)
          clear hK K
          try simp only [Act.put, List.getElem_toArray, List.getElem_cons_zero, List.getElem_cons_succ, List.setIfInBounds_toArray, List.set_cons_zero, List.set_cons_succ]
          refine wpAnyH_take (i := 13) (v := ?_) rfl (by kernel_rfl) (by kernel_rfl) (by kernel_rfl) (fun _ _ _ h => h) (Or.inl ⟨by rfl, ?ynf172⟩) (by assumption) ?qnf172
          case ynf172 => (intro wz hSw; (try dsimp only at hSw); go_simp <;> with_reducible rfl)
          try simp only [Act.put, List.getElem_toArray, List.getElem_cons_zero, List.getElem_cons_succ, List.setIfInBounds_toArray, List.set_cons_zero, List.set_cons_succ]
          refine wpAnyH_done (by kernel_rfl) ?_ _
          go_wp2
          exact HKEY.out _ _ _ _ _ _ _ HB.out F2.out F4.out F10.out F6.out F8.out D2_4 D2_10 D4_10
        exact AllReadyH.nil
      refine AllReadyH.cons rfl (fun K hK => ?bnf173) ?cnf173
      case bnf173 =>
        go_simp
        obtain ⟨g10, hg⟩ : ∃ g, g = u150.heap.size := ⟨_, rfl⟩
        obtain ⟨u173, hu⟩ : ∃ X, X = u150.alloc (.cells (madeCells #[.int .i64 0] n) 3) := ⟨_, rfl⟩
        have hb : Below u150.heap.size u150 u173 := by rw [hu]; exact (Below.refl _ _).alloc (Nat.le_refl _) _
        have D2_10 : g2 ≠ g10 := by have := F2.out.lt; omega
        rw [← hg, ← hu]
        have F10 := Lib.hid (CF.new HB.out.size hg hu)
        replace F2 := Lib.hid (F2.out.below hb)
        replace F6 := Lib.hid (F6.out.below hb)
        replace HB := Lib.hid (hbt HB.out hb)
        clear hb hg hu
        refine hK.out _ _ (True.intro) (fun hHeld173 => ?_)
        clear hK K
        try simp only [Act.put, List.getElem_toArray, List.getElem_cons_zero, List.getElem_cons_succ, List.setIfInBounds_toArray, List.set_cons_zero, List.set_cons_succ]
        refine wpAnyH_ready (rs := [4, 8]) (by kernel_rfl) (by simp) ?_
        refine AllReadyH.cons rfl (fun K hK => ?bnf174) ?cnf174
        case bnf174 =>
          go_simp
          obtain ⟨g4, hg⟩ : ∃ g, g = u173.heap.size := ⟨_, rfl⟩
          obtain ⟨u174, hu⟩ : ∃ X, X = u173.alloc (.cells (madeCells #[.int .i64 0] n) 3) := ⟨_, rfl⟩
          have hb : Below u173.heap.size u173 u174 := by rw [hu]; exact (Below.refl _ _).alloc (Nat.le_refl _) _
          have D2_4 : g2 ≠ g4 := by have := F2.out.lt; omega
          have D4_10 : g4 ≠ g10 := by have := F10.out.lt; omega
          rw [← hg, ← hu]
          have F4 := Lib.hid (CF.new HB.out.size hg hu)
          replace F2 := Lib.hid (F2.out.below hb)
          replace F6 := Lib.hid (F6.out.below hb)
          replace F10 := Lib.hid (F10.out.below hb)
          replace HB := Lib.hid (hbt HB.out hb)
          clear hb hg hu
          refine hK.out _ _ (True.intro) (fun hHeld174 => ?_)
          clear hK K
          try simp only [Act.put, List.getElem_toArray, List.getElem_cons_zero, List.getElem_cons_succ, List.setIfInBounds_toArray, List.set_cons_zero, List.set_cons_succ]
          refine wpAnyH_ready (rs := [8]) (by kernel_rfl) (by simp) ?_
          refine AllReadyH.cons rfl (fun K hK => ?_) AllReadyH.nil
          go_simp
          refine (HN.out _).mono ?_
          rintro e u175 ⟨rfl, hs, hb⟩
          obtain ⟨g8, hg⟩ : ∃ g, g = u174.heap.size := ⟨_, rfl⟩
          rw [← hg] at hs ⊢
          have F8 := Lib.hid (RF_.new HB.out.size hg hs)
          replace F2 := Lib.hid (F2.out.below hb)
          replace F4 := Lib.hid (F4.out.below hb)
          replace F6 := Lib.hid (F6.out.below hb)
          replace F10 := Lib.hid (F10.out.below hb)
          replace HB := Lib.hid (hbt HB.out hb)
          clear hb hg hs
          refine hK.out _ _ (True.intro) (fun hHeld175 => ?_)
          clear hK K
          try simp only [Act.put, List.getElem_toArray, List.getElem_cons_zero, List.getElem_cons_succ, List.setIfInBounds_toArray, List.set_cons_zero, List.set_cons_succ]
          refine wpAnyH_take (i := 11) (v := ?_) rfl (by kernel_rfl) (by kernel_rfl) (by kernel_rfl) (fun _ _ _ h => h) (Or.inl ⟨by rfl, ?ynf176⟩) (by assumption) ?qnf176
          case ynf176 => (intro wz hSw; (try dsimp only at hSw); go_simp <;> with_reducible rfl)
          try simp only [Act.put, List.getElem_toArray, List.getElem_cons_zero, List.getElem_cons_succ, List.setIfInBounds_toArray, List.set_cons_zero, List.set_cons_succ]
          refine wpAnyH_ready (rs := [12]) (by kernel_rfl) (by simp) ?_
          refine AllReadyH.cons rfl (fun K hK => ?_) AllReadyH.nil
          go_simp
          refine hK.out _ _ (True.intro) (fun hHeld177 => ?_)
          clear hK K
          try simp only [Act.put, List.getElem_toArray, List.getElem_cons_zero, List.getElem_cons_succ, List.setIfInBounds_toArray, List.set_cons_zero, List.set_cons_succ]
          refine wpAnyH_take (i := 13) (v := ?_) rfl (by kernel_rfl) (by kernel_rfl) (by kernel_rfl) (fun _ _ _ h => h) (Or.inl ⟨by rfl, ?ynf178⟩) (by assumption) ?qnf178
          case ynf178 => (intro wz hSw; (try dsimp only at hSw); go_simp <;> with_reducible rfl)
          try simp only [Act.put, List.getElem_toArray, List.getElem_cons_zero, List.getElem_cons_succ, List.setIfInBounds_toArray, List.set_cons_zero, List.set_cons_succ]
          refine wpAnyH_done (by kernel_rfl) ?_ _
          go_wp2
          exact HKEY.out _ _ _ _ _ _ _ HB.out F2.out F4.out F10.out F6.out F8.out D2_4 D2_10 D4_10
        refine AllReadyH.cons rfl (fun K hK => ?bnf179) ?cnf179
        case bnf179 =>
          go_simp
          refine (HN.out _).mono ?_
          rintro e u179 ⟨rfl, hs, hb⟩
          obtain ⟨g8, hg⟩ : ∃ g, g = u173.heap.size := ⟨_, rfl⟩
          rw [← hg] at hs ⊢
          have F8 := Lib.hid (RF_.new HB.out.size hg hs)
          replace F2 := Lib.hid (F2.out.below hb)
          replace F6 := Lib.hid (F6.out.below hb)
          replace F10 := Lib.hid (F10.out.below hb)
          replace HB := Lib.hid (hbt HB.out hb)
          clear hb hg hs
          refine hK.out _ _ (True.intro) (fun hHeld179 => ?_)
          clear hK K
          try simp only [Act.put, List.getElem_toArray, List.getElem_cons_zero, List.getElem_cons_succ, List.setIfInBounds_toArray, List.set_cons_zero, List.set_cons_succ]
          refine wpAnyH_ready (rs := [4]) (by kernel_rfl) (by simp) ?_
          refine AllReadyH.cons rfl (fun K hK => ?_) AllReadyH.nil
          go_simp
          obtain ⟨g4, hg⟩ : ∃ g, g = u179.heap.size := ⟨_, rfl⟩
          obtain ⟨u180, hu⟩ : ∃ X, X = u179.alloc (.cells (madeCells #[.int .i64 0] n) 3) := ⟨_, rfl⟩
          have hb : Below u179.heap.size u179 u180 := by rw [hu]; exact (Below.refl _ _).alloc (Nat.le_refl _) _
          have D2_4 : g2 ≠ g4 := by have := F2.out.lt; omega
          have D4_10 : g4 ≠ g10 := by have := F10.out.lt; omega
          rw [← hg, ← hu]
          have F4 := Lib.hid (CF.new HB.out.size hg hu)
          replace F2 := Lib.hid (F2.out.below hb)
          replace F6 := Lib.hid (F6.out.below hb)
          replace F8 := Lib.hid (F8.out.below hb)
          replace F10 := Lib.hid (F10.out.below hb)
          replace HB := Lib.hid (hbt HB.out hb)
          clear hb hg hu
          refine hK.out _ _ (True.intro) (fun hHeld180 => ?_)
          clear hK K
          try simp only [Act.put, List.getElem_toArray, List.getElem_cons_zero, List.getElem_cons_succ, List.setIfInBounds_toArray, List.set_cons_zero, List.set_cons_succ]
          refine wpAnyH_take (i := 11) (v := ?_) rfl (by kernel_rfl) (by kernel_rfl) (by kernel_rfl) (fun _ _ _ h => h) (Or.inl ⟨by rfl, ?ynf181⟩) (by assumption) ?qnf181
          case ynf181 => (intro wz hSw; (try dsimp only at hSw); go_simp <;> with_reducible rfl)
          try simp only [Act.put, List.getElem_toArray, List.getElem_cons_zero, List.getElem_cons_succ, List.setIfInBounds_toArray, List.set_cons_zero, List.set_cons_succ]
          refine wpAnyH_ready (rs := [12]) (by kernel_rfl) (by simp) ?_
          refine AllReadyH.cons rfl (fun K hK => ?_) AllReadyH.nil
          go_simp
          refine hK.out _ _ (True.intro) (fun hHeld182 => ?_)
          clear hK K
          try simp only [Act.put, List.getElem_toArray, List.getElem_cons_zero, List.getElem_cons_succ, List.setIfInBounds_toArray, List.set_cons_zero, List.set_cons_succ]
          refine wpAnyH_take (i := 13) (v := ?_) rfl (by kernel_rfl) (by kernel_rfl) (by kernel_rfl) (fun _ _ _ h => h) (Or.inl ⟨by rfl, ?ynf183⟩) (by assumption) ?qnf183
          case ynf183 => (intro wz hSw; (try dsimp only at hSw); go_simp <;> with_reducible rfl)
          try simp only [Act.put, List.getElem_toArray, List.getElem_cons_zero, List.getElem_cons_succ, List.setIfInBounds_toArray, List.set_cons_zero, List.set_cons_succ]
          refine wpAnyH_done (by kernel_rfl) ?_ _
          go_wp2
          exact HKEY.out _ _ _ _ _ _ _ HB.out F2.out F4.out F10.out F6.out F8.out D2_4 D2_10 D4_10
        exact AllReadyH.nil
      exact AllReadyH.nil
    refine AllReadyH.cons rfl (fun K hK => ?bnf184) ?cnf184
    case bnf184 =>
      go_simp
      obtain ⟨g4, hg⟩ : ∃ g, g = u149.heap.size := ⟨_, rfl⟩
      obtain ⟨u184, hu⟩ : ∃ X, X = u149.alloc (.cells (madeCells #[.int .i64 0] n) 3) := ⟨_, rfl⟩
      have hb : Below u149.heap.size u149 u184 := by rw [hu]; exact (Below.refl _ _).alloc (Nat.le_refl _) _
      rw [← hg, ← hu]
      have F4 := Lib.hid (CF.new HB.out.size hg hu)
      replace F6 := Lib.hid (F6.out.below hb)
      replace HB := Lib.hid (hbt HB.out hb)
      clear hb hg hu
      refine hK.out _ _ (True.intro) (fun hHeld184 => ?_)
      clear hK K
      try simp only [Act.put, List.getElem_toArray, List.getElem_cons_zero, List.getElem_cons_succ, List.setIfInBounds_toArray, List.set_cons_zero, List.set_cons_succ]
      refine wpAnyH_ready (rs := [2, 8, 10]) (by kernel_rfl) (by simp) ?_
      refine AllReadyH.cons rfl (fun K hK => ?bnf185) ?cnf185
      case bnf185 =>
        go_simp
        obtain ⟨g2, hg⟩ : ∃ g, g = u184.heap.size := ⟨_, rfl⟩
        obtain ⟨u185, hu⟩ : ∃ X, X = u184.alloc (.cells (madeCells #[.int .i64 0] n) 3) := ⟨_, rfl⟩
        have hb : Below u184.heap.size u184 u185 := by rw [hu]; exact (Below.refl _ _).alloc (Nat.le_refl _) _
        have D2_4 : g2 ≠ g4 := by have := F4.out.lt; omega
        rw [← hg, ← hu]
        have F2 := Lib.hid (CF.new HB.out.size hg hu)
        replace F4 := Lib.hid (F4.out.below hb)
        replace F6 := Lib.hid (F6.out.below hb)
        replace HB := Lib.hid (hbt HB.out hb)
        clear hb hg hu
        refine hK.out _ _ (True.intro) (fun hHeld185 => ?_)
        clear hK K
        try simp only [Act.put, List.getElem_toArray, List.getElem_cons_zero, List.getElem_cons_succ, List.setIfInBounds_toArray, List.set_cons_zero, List.set_cons_succ]
        refine wpAnyH_ready (rs := [8, 10]) (by kernel_rfl) (by simp) ?_
        refine AllReadyH.cons rfl (fun K hK => ?bnf186) ?cnf186
        case bnf186 =>
          go_simp
          refine (HN.out _).mono ?_
          rintro e u186 ⟨rfl, hs, hb⟩
          obtain ⟨g8, hg⟩ : ∃ g, g = u185.heap.size := ⟨_, rfl⟩
          rw [← hg] at hs ⊢
          have F8 := Lib.hid (RF_.new HB.out.size hg hs)
          replace F2 := Lib.hid (F2.out.below hb)
          replace F4 := Lib.hid (F4.out.below hb)
          replace F6 := Lib.hid (F6.out.below hb)
          replace HB := Lib.hid (hbt HB.out hb)
          clear hb hg hs
          refine hK.out _ _ (True.intro) (fun hHeld186 => ?_)
          clear hK K
          try simp only [Act.put, List.getElem_toArray, List.getElem_cons_zero, List.getElem_cons_succ, List.setIfInBounds_toArray, List.set_cons_zero, List.set_cons_succ]
          refine wpAnyH_ready (rs := [10]) (by kernel_rfl) (by simp) ?_
          refine AllReadyH.cons rfl (fun K hK => ?_) AllReadyH.nil
          go_simp
          obtain ⟨g10, hg⟩ : ∃ g, g = u186.heap.size := ⟨_, rfl⟩
          obtain ⟨u187, hu⟩ : ∃ X, X = u186.alloc (.cells (madeCells #[.int .i64 0] n) 3) := ⟨_, rfl⟩
          have hb : Below u186.heap.size u186 u187 := by rw [hu]; exact (Below.refl _ _).alloc (Nat.le_refl _) _
          have D2_10 : g2 ≠ g10 := by have := F2.out.lt; omega
          have D4_10 : g4 ≠ g10 := by have := F4.out.lt; omega
          rw [← hg, ← hu]
          have F10 := Lib.hid (CF.new HB.out.size hg hu)
          replace F2 := Lib.hid (F2.out.below hb)
          replace F4 := Lib.hid (F4.out.below hb)
          replace F6 := Lib.hid (F6.out.below hb)
          replace F8 := Lib.hid (F8.out.below hb)
          replace HB := Lib.hid (hbt HB.out hb)
          clear hb hg hu
          refine hK.out _ _ (True.intro) (fun hHeld187 => ?_)
          clear hK K
          try simp only [Act.put, List.getElem_toArray, List.getElem_cons_zero, List.getElem_cons_succ, List.setIfInBounds_toArray, List.set_cons_zero, List.set_cons_succ]
          refine wpAnyH_take (i := 11) (v := ?_) rfl (by kernel_rfl) (by kernel_rfl) (by kernel_rfl) (fun _ _ _ h => h) (Or.inl ⟨by rfl, ?ynf188⟩) (by assumption) ?qnf188
          case ynf188 => (intro wz hSw; (try dsimp only at hSw); go_simp <;> with_reducible rfl)
          try simp only [Act.put, List.getElem_toArray, List.getElem_cons_zero, List.getElem_cons_succ, List.setIfInBounds_toArray, List.set_cons_zero, List.set_cons_succ]
          refine wpAnyH_ready (rs := [12]) (by kernel_rfl) (by simp) ?_
          refine AllReadyH.cons rfl (fun K hK => ?_) AllReadyH.nil
          go_simp
          refine hK.out _ _ (True.intro) (fun hHeld189 => ?_)
          clear hK K
          try simp only [Act.put, List.getElem_toArray, List.getElem_cons_zero, List.getElem_cons_succ, List.setIfInBounds_toArray, List.set_cons_zero, List.set_cons_succ]
          refine wpAnyH_take (i := 13) (v := ?_) rfl (by kernel_rfl) (by kernel_rfl) (by kernel_rfl) (fun _ _ _ h => h) (Or.inl ⟨by rfl, ?ynf190⟩) (by assumption) ?qnf190
          case ynf190 => (intro wz hSw; (try dsimp only at hSw); go_simp <;> with_reducible rfl)
          try simp only [Act.put, List.getElem_toArray, List.getElem_cons_zero, List.getElem_cons_succ, List.setIfInBounds_toArray, List.set_cons_zero, List.set_cons_succ]
          refine wpAnyH_done (by kernel_rfl) ?_ _
          go_wp2
          exact HKEY.out _ _ _ _ _ _ _ HB.out F2.out F4.out F10.out F6.out F8.out D2_4 D2_10 D4_10
        refine AllReadyH.cons rfl (fun K hK => ?bnf191) ?cnf191
        case bnf191 =>
          go_simp
          obtain ⟨g10, hg⟩ : ∃ g, g = u185.heap.size := ⟨_, rfl⟩
          obtain ⟨u191, hu⟩ : ∃ X, X = u185.alloc (.cells (madeCells #[.int .i64 0] n) 3) := ⟨_, rfl⟩
          have hb : Below u185.heap.size u185 u191 := by rw [hu]; exact (Below.refl _ _).alloc (Nat.le_refl _) _
          have D2_10 : g2 ≠ g10 := by have := F2.out.lt; omega
          have D4_10 : g4 ≠ g10 := by have := F4.out.lt; omega
          rw [← hg, ← hu]
          have F10 := Lib.hid (CF.new HB.out.size hg hu)
          replace F2 := Lib.hid (F2.out.below hb)
          replace F4 := Lib.hid (F4.out.below hb)
          replace F6 := Lib.hid (F6.out.below hb)
          replace HB := Lib.hid (hbt HB.out hb)
          clear hb hg hu
          refine hK.out _ _ (True.intro) (fun hHeld191 => ?_)
          clear hK K
          try simp only [Act.put, List.getElem_toArray, List.getElem_cons_zero, List.getElem_cons_succ, List.setIfInBounds_toArray, List.set_cons_zero, List.set_cons_succ]
          refine wpAnyH_ready (rs := [8]) (by kernel_rfl) (by simp) ?_
          refine AllReadyH.cons rfl (fun K hK => ?_) AllReadyH.nil
          go_simp
          refine (HN.out _).mono ?_
          rintro e u192 ⟨rfl, hs, hb⟩
          obtain ⟨g8, hg⟩ : ∃ g, g = u191.heap.size := ⟨_, rfl⟩
          rw [← hg] at hs ⊢
          have F8 := Lib.hid (RF_.new HB.out.size hg hs)
          replace F2 := Lib.hid (F2.out.below hb)
          replace F4 := Lib.hid (F4.out.below hb)
          replace F6 := Lib.hid (F6.out.below hb)
          replace F10 := Lib.hid (F10.out.below hb)
          replace HB := Lib.hid (hbt HB.out hb)
          clear hb hg hs
          refine hK.out _ _ (True.intro) (fun hHeld192 => ?_)
          clear hK K
          try simp only [Act.put, List.getElem_toArray, List.getElem_cons_zero, List.getElem_cons_succ, List.setIfInBounds_toArray, List.set_cons_zero, List.set_cons_succ]
          refine wpAnyH_take (i := 11) (v := ?_) rfl (by kernel_rfl) (by kernel_rfl) (by kernel_rfl) (fun _ _ _ h => h) (Or.inl ⟨by rfl, ?ynf193⟩) (by assumption) ?qnf193
          case ynf193 => (intro wz hSw; (try dsimp only at hSw); go_simp <;> with_reducible rfl)
          try simp only [Act.put, List.getElem_toArray, List.getElem_cons_zero, List.getElem_cons_succ, List.setIfInBounds_toArray, List.set_cons_zero, List.set_cons_succ]
          refine wpAnyH_ready (rs := [12]) (by kernel_rfl) (by simp) ?_
          refine AllReadyH.cons rfl (fun K hK => ?_) AllReadyH.nil
          go_simp
          refine hK.out _ _ (True.intro) (fun hHeld194 => ?_)
          clear hK K
          try simp only [Act.put, List.getElem_toArray, List.getElem_cons_zero, List.getElem_cons_succ, List.setIfInBounds_toArray, List.set_cons_zero, List.set_cons_succ]
          refine wpAnyH_take (i := 13) (v := ?_) rfl (by kernel_rfl) (by kernel_rfl) (by kernel_rfl) (fun _ _ _ h => h) (Or.inl ⟨by rfl, ?ynf195⟩) (by assumption) ?qnf195
          case ynf195 => (intro wz hSw; (try dsimp only at hSw); go_simp <;> with_reducible rfl)
          try simp only [Act.put, List.getElem_toArray, List.getElem_cons_zero, List.getElem_cons_succ, List.setIfInBounds_toArray, List.set_cons_zero, List.set_cons_succ]
          refine wpAnyH_done (by kernel_rfl) ?_ _
          go_wp2
          exact HKEY.out _ _ _ _ _ _ _ HB.out F2.out F4.out F10.out F6.out F8.out D2_4 D2_10 D4_10
        exact AllReadyH.nil
      refine AllReadyH.cons rfl (fun K hK => ?bnf196) ?cnf196
      case bnf196 =>
        go_simp
        refine (HN.out _).mono ?_
        rintro e u196 ⟨rfl, hs, hb⟩
        obtain ⟨g8, hg⟩ : ∃ g, g = u184.heap.size := ⟨_, rfl⟩
        rw [← hg] at hs ⊢
        have F8 := Lib.hid (RF_.new HB.out.size hg hs)
        replace F4 := Lib.hid (F4.out.below hb)
        replace F6 := Lib.hid (F6.out.below hb)
        replace HB := Lib.hid (hbt HB.out hb)
        clear hb hg hs
        refine hK.out _ _ (True.intro) (fun hHeld196 => ?_)
        clear hK K
        try simp only [Act.put, List.getElem_toArray, List.getElem_cons_zero, List.getElem_cons_succ, List.setIfInBounds_toArray, List.set_cons_zero, List.set_cons_succ]
        refine wpAnyH_ready (rs := [2, 10]) (by kernel_rfl) (by simp) ?_
        refine AllReadyH.cons rfl (fun K hK => ?bnf197) ?cnf197
        case bnf197 =>
          go_simp
          obtain ⟨g2, hg⟩ : ∃ g, g = u196.heap.size := ⟨_, rfl⟩
          obtain ⟨u197, hu⟩ : ∃ X, X = u196.alloc (.cells (madeCells #[.int .i64 0] n) 3) := ⟨_, rfl⟩
          have hb : Below u196.heap.size u196 u197 := by rw [hu]; exact (Below.refl _ _).alloc (Nat.le_refl _) _
          have D2_4 : g2 ≠ g4 := by have := F4.out.lt; omega
          rw [← hg, ← hu]
          have F2 := Lib.hid (CF.new HB.out.size hg hu)
          replace F4 := Lib.hid (F4.out.below hb)
          replace F6 := Lib.hid (F6.out.below hb)
          replace F8 := Lib.hid (F8.out.below hb)
          replace HB := Lib.hid (hbt HB.out hb)
          clear hb hg hu
          refine hK.out _ _ (True.intro) (fun hHeld197 => ?_)
          clear hK K
          try simp only [Act.put, List.getElem_toArray, List.getElem_cons_zero, List.getElem_cons_succ, List.setIfInBounds_toArray, List.set_cons_zero, List.set_cons_succ]
          refine wpAnyH_ready (rs := [10]) (by kernel_rfl) (by simp) ?_
          refine AllReadyH.cons rfl (fun K hK => ?_) AllReadyH.nil
          go_simp
          obtain ⟨g10, hg⟩ : ∃ g, g = u197.heap.size := ⟨_, rfl⟩
          obtain ⟨u198, hu⟩ : ∃ X, X = u197.alloc (.cells (madeCells #[.int .i64 0] n) 3) := ⟨_, rfl⟩
          have hb : Below u197.heap.size u197 u198 := by rw [hu]; exact (Below.refl _ _).alloc (Nat.le_refl _) _
          have D2_10 : g2 ≠ g10 := by have := F2.out.lt; omega
          have D4_10 : g4 ≠ g10 := by have := F4.out.lt; omega
          rw [← hg, ← hu]
          have F10 := Lib.hid (CF.new HB.out.size hg hu)
          replace F2 := Lib.hid (F2.out.below hb)
          replace F4 := Lib.hid (F4.out.below hb)
          replace F6 := Lib.hid (F6.out.below hb)
          replace F8 := Lib.hid (F8.out.below hb)
          replace HB := Lib.hid (hbt HB.out hb)
          clear hb hg hu
          refine hK.out _ _ (True.intro) (fun hHeld198 => ?_)
          clear hK K
          try simp only [Act.put, List.getElem_toArray, List.getElem_cons_zero, List.getElem_cons_succ, List.setIfInBounds_toArray, List.set_cons_zero, List.set_cons_succ]
          refine wpAnyH_take (i := 11) (v := ?_) rfl (by kernel_rfl) (by kernel_rfl) (by kernel_rfl) (fun _ _ _ h => h) (Or.inl ⟨by rfl, ?ynf199⟩) (by assumption) ?qnf199
          case ynf199 => (intro wz hSw; (try dsimp only at hSw); go_simp <;> with_reducible rfl)
          try simp only [Act.put, List.getElem_toArray, List.getElem_cons_zero, List.getElem_cons_succ, List.setIfInBounds_toArray, List.set_cons_zero, List.set_cons_succ]
          refine wpAnyH_ready (rs := [12]) (by kernel_rfl) (by simp) ?_
          refine AllReadyH.cons rfl (fun K hK => ?_) AllReadyH.nil
          go_simp
          refine hK.out _ _ (True.intro) (fun hHeld200 => ?_)
          clear hK K
          try simp only [Act.put, List.getElem_toArray, List.getElem_cons_zero, List.getElem_cons_succ, List.setIfInBounds_toArray, List.set_cons_zero, List.set_cons_succ]
          refine wpAnyH_take (i := 13) (v := ?_) rfl (by kernel_rfl) (by kernel_rfl) (by kernel_rfl) (fun _ _ _ h => h) (Or.inl ⟨by rfl, ?ynf201⟩) (by assumption) ?qnf201
          case ynf201 => (intro wz hSw; (try dsimp only at hSw); go_simp <;> with_reducible rfl)
          try simp only [Act.put, List.getElem_toArray, List.getElem_cons_zero, List.getElem_cons_succ, List.setIfInBounds_toArray, List.set_cons_zero, List.set_cons_succ]
          refine wpAnyH_done (by kernel_rfl) ?_ _
          go_wp2
          exact HKEY.out _ _ _ _ _ _ _ HB.out F2.out F4.out F10.out F6.out F8.out D2_4 D2_10 D4_10
        refine AllReadyH.cons rfl (fun K hK => ?bnf202) ?cnf202
        case bnf202 =>
          go_simp
          obtain ⟨g10, hg⟩ : ∃ g, g = u196.heap.size := ⟨_, rfl⟩
          obtain ⟨u202, hu⟩ : ∃ X, X = u196.alloc (.cells (madeCells #[.int .i64 0] n) 3) := ⟨_, rfl⟩
          have hb : Below u196.heap.size u196 u202 := by rw [hu]; exact (Below.refl _ _).alloc (Nat.le_refl _) _
          have D4_10 : g4 ≠ g10 := by have := F4.out.lt; omega
          rw [← hg, ← hu]
          have F10 := Lib.hid (CF.new HB.out.size hg hu)
          replace F4 := Lib.hid (F4.out.below hb)
          replace F6 := Lib.hid (F6.out.below hb)
          replace F8 := Lib.hid (F8.out.below hb)
          replace HB := Lib.hid (hbt HB.out hb)
          clear hb hg hu
          refine hK.out _ _ (True.intro) (fun hHeld202 => ?_)
          clear hK K
          try simp only [Act.put, List.getElem_toArray, List.getElem_cons_zero, List.getElem_cons_succ, List.setIfInBounds_toArray, List.set_cons_zero, List.set_cons_succ]
          refine wpAnyH_ready (rs := [2]) (by kernel_rfl) (by simp) ?_
          refine AllReadyH.cons rfl (fun K hK => ?_) AllReadyH.nil
          go_simp
          obtain ⟨g2, hg⟩ : ∃ g, g = u202.heap.size := ⟨_, rfl⟩
          obtain ⟨u203, hu⟩ : ∃ X, X = u202.alloc (.cells (madeCells #[.int .i64 0] n) 3) := ⟨_, rfl⟩
          have hb : Below u202.heap.size u202 u203 := by rw [hu]; exact (Below.refl _ _).alloc (Nat.le_refl _) _
          have D2_4 : g2 ≠ g4 := by have := F4.out.lt; omega
          have D2_10 : g2 ≠ g10 := by have := F10.out.lt; omega
          rw [← hg, ← hu]
          have F2 := Lib.hid (CF.new HB.out.size hg hu)
          replace F4 := Lib.hid (F4.out.below hb)
          replace F6 := Lib.hid (F6.out.below hb)
          replace F8 := Lib.hid (F8.out.below hb)
          replace F10 := Lib.hid (F10.out.below hb)
          replace HB := Lib.hid (hbt HB.out hb)
          clear hb hg hu
          refine hK.out _ _ (True.intro) (fun hHeld203 => ?_)
          clear hK K
          try simp only [Act.put, List.getElem_toArray, List.getElem_cons_zero, List.getElem_cons_succ, List.setIfInBounds_toArray, List.set_cons_zero, List.set_cons_succ]
          refine wpAnyH_take (i := 11) (v := ?_) rfl (by kernel_rfl) (by kernel_rfl) (by kernel_rfl) (fun _ _ _ h => h) (Or.inl ⟨by rfl, ?ynf204⟩) (by assumption) ?qnf204
          case ynf204 => (intro wz hSw; (try dsimp only at hSw); go_simp <;> with_reducible rfl)
          try simp only [Act.put, List.getElem_toArray, List.getElem_cons_zero, List.getElem_cons_succ, List.setIfInBounds_toArray, List.set_cons_zero, List.set_cons_succ]
          refine wpAnyH_ready (rs := [12]) (by kernel_rfl) (by simp) ?_
          refine AllReadyH.cons rfl (fun K hK => ?_) AllReadyH.nil
          go_simp
          refine hK.out _ _ (True.intro) (fun hHeld205 => ?_)
          clear hK K
          try simp only [Act.put, List.getElem_toArray, List.getElem_cons_zero, List.getElem_cons_succ, List.setIfInBounds_toArray, List.set_cons_zero, List.set_cons_succ]
          refine wpAnyH_take (i := 13) (v := ?_) rfl (by kernel_rfl) (by kernel_rfl) (by kernel_rfl) (fun _ _ _ h => h) (Or.inl ⟨by rfl, ?ynf206⟩) (by assumption) ?qnf206
          case ynf206 => (intro wz hSw; (try dsimp only at hSw); go_simp <;> with_reducible rfl)
          try simp only [Act.put, List.getElem_toArray, List.getElem_cons_zero, List.getElem_cons_succ, List.setIfInBounds_toArray, List.set_cons_zero, List.set_cons_succ]
          refine wpAnyH_done (by kernel_rfl) ?_ _
          go_wp2
          exact HKEY.out _ _ _ _ _ _ _ HB.out F2.out F4.out F10.out F6.out F8.out D2_4 D2_10 D4_10
        exact AllReadyH.nil
      refine AllReadyH.cons rfl (fun K hK => ?bnf207) ?cnf207
      case bnf207 =>
        go_simp
        obtain ⟨g10, hg⟩ : ∃ g, g = u184.heap.size := ⟨_, rfl⟩
        obtain ⟨u207, hu⟩ : ∃ X, X = u184.alloc (.cells (madeCells #[.int .i64 0] n) 3) := ⟨_, rfl⟩
        have hb : Below u184.heap.size u184 u207 := by rw [hu]; exact (Below.refl _ _).alloc (Nat.le_refl _) _
        have D4_10 : g4 ≠ g10 := by have := F4.out.lt; omega
        rw [← hg, ← hu]
        have F10 := Lib.hid (CF.new HB.out.size hg hu)
        replace F4 := Lib.hid (F4.out.below hb)
        replace F6 := Lib.hid (F6.out.below hb)
        replace HB := Lib.hid (hbt HB.out hb)
        clear hb hg hu
        refine hK.out _ _ (True.intro) (fun hHeld207 => ?_)
        clear hK K
        try simp only [Act.put, List.getElem_toArray, List.getElem_cons_zero, List.getElem_cons_succ, List.setIfInBounds_toArray, List.set_cons_zero, List.set_cons_succ]
        refine wpAnyH_ready (rs := [2, 8]) (by kernel_rfl) (by simp) ?_
        refine AllReadyH.cons rfl (fun K hK => ?bnf208) ?cnf208
        case bnf208 =>
          go_simp
          obtain ⟨g2, hg⟩ : ∃ g, g = u207.heap.size := ⟨_, rfl⟩
          obtain ⟨u208, hu⟩ : ∃ X, X = u207.alloc (.cells (madeCells #[.int .i64 0] n) 3) := ⟨_, rfl⟩
          have hb : Below u207.heap.size u207 u208 := by rw [hu]; exact (Below.refl _ _).alloc (Nat.le_refl _) _
          have D2_4 : g2 ≠ g4 := by have := F4.out.lt; omega
          have D2_10 : g2 ≠ g10 := by have := F10.out.lt; omega
          rw [← hg, ← hu]
          have F2 := Lib.hid (CF.new HB.out.size hg hu)
          replace F4 := Lib.hid (F4.out.below hb)
          replace F6 := Lib.hid (F6.out.below hb)
          replace F10 := Lib.hid (F10.out.below hb)
          replace HB := Lib.hid (hbt HB.out hb)
          clear hb hg hu
          refine hK.out _ _ (True.intro) (fun hHeld208 => ?_)
          clear hK K
          try simp only [Act.put, List.getElem_toArray, List.getElem_cons_zero, List.getElem_cons_succ, List.setIfInBounds_toArray, List.set_cons_zero, List.set_cons_succ]
          refine wpAnyH_ready (rs := [8]) (by kernel_rfl) (by simp) ?_
          refine AllReadyH.cons rfl (fun K hK => ?_) AllReadyH.nil
          go_simp
          refine (HN.out _).mono ?_
          rintro e u209 ⟨rfl, hs, hb⟩
          obtain ⟨g8, hg⟩ : ∃ g, g = u208.heap.size := ⟨_, rfl⟩
          rw [← hg] at hs ⊢
          have F8 := Lib.hid (RF_.new HB.out.size hg hs)
          replace F2 := Lib.hid (F2.out.below hb)
          replace F4 := Lib.hid (F4.out.below hb)
          replace F6 := Lib.hid (F6.out.below hb)
          replace F10 := Lib.hid (F10.out.below hb)
          replace HB := Lib.hid (hbt HB.out hb)
          clear hb hg hs
          refine hK.out _ _ (True.intro) (fun hHeld209 => ?_)
          clear hK K
          try simp only [Act.put, List.getElem_toArray, List.getElem_cons_zero, List.getElem_cons_succ, List.setIfInBounds_toArray, List.set_cons_zero, List.set_cons_succ]
          refine wpAnyH_take (i := 11) (v := ?_) rfl (by kernel_rfl) (by kernel_rfl) (by kernel_rfl) (fun _ _ _ h => h) (Or.inl ⟨by rfl, ?ynf210⟩) (by assumption) ?qnf210
          case ynf210 => (intro wz hSw; (try dsimp only at hSw); go_simp <;> with_reducible rfl)
          try simp only [Act.put, List.getElem_toArray, List.getElem_cons_zero, List.getElem_cons_succ, List.setIfInBounds_toArray, List.set_cons_zero, List.set_cons_succ]
          refine wpAnyH_ready (rs := [12]) (by kernel_rfl) (by simp) ?_
          refine AllReadyH.cons rfl (fun K hK => ?_) AllReadyH.nil
          go_simp
          refine hK.out _ _ (True.intro) (fun hHeld211 => ?_)
          clear hK K
          try simp only [Act.put, List.getElem_toArray, List.getElem_cons_zero, List.getElem_cons_succ, List.setIfInBounds_toArray, List.set_cons_zero, List.set_cons_succ]
          refine wpAnyH_take (i := 13) (v := ?_) rfl (by kernel_rfl) (by kernel_rfl) (by kernel_rfl) (fun _ _ _ h => h) (Or.inl ⟨by rfl, ?ynf212⟩) (by assumption) ?qnf212
          case ynf212 => (intro wz hSw; (try dsimp only at hSw); go_simp <;> with_reducible rfl)
          try simp only [Act.put, List.getElem_toArray, List.getElem_cons_zero, List.getElem_cons_succ, List.setIfInBounds_toArray, List.set_cons_zero, List.set_cons_succ]
          refine wpAnyH_done (by kernel_rfl) ?_ _
          go_wp2
          exact HKEY.out _ _ _ _ _ _ _ HB.out F2.out F4.out F10.out F6.out F8.out D2_4 D2_10 D4_10
        refine AllReadyH.cons rfl (fun K hK => ?bnf213) ?cnf213
        case bnf213 =>
          go_simp
          refine (HN.out _).mono ?_
          rintro e u213 ⟨rfl, hs, hb⟩
          obtain ⟨g8, hg⟩ : ∃ g, g = u207.heap.size := ⟨_, rfl⟩
          rw [← hg] at hs ⊢
          have F8 := Lib.hid (RF_.new HB.out.size hg hs)
          replace F4 := Lib.hid (F4.out.below hb)
          replace F6 := Lib.hid (F6.out.below hb)
          replace F10 := Lib.hid (F10.out.below hb)
          replace HB := Lib.hid (hbt HB.out hb)
          clear hb hg hs
          refine hK.out _ _ (True.intro) (fun hHeld213 => ?_)
          clear hK K
          try simp only [Act.put, List.getElem_toArray, List.getElem_cons_zero, List.getElem_cons_succ, List.setIfInBounds_toArray, List.set_cons_zero, List.set_cons_succ]
          refine wpAnyH_ready (rs := [2]) (by kernel_rfl) (by simp) ?_
          refine AllReadyH.cons rfl (fun K hK => ?_) AllReadyH.nil
          go_simp
          obtain ⟨g2, hg⟩ : ∃ g, g = u213.heap.size := ⟨_, rfl⟩
          obtain ⟨u214, hu⟩ : ∃ X, X = u213.alloc (.cells (madeCells #[.int .i64 0] n) 3) := ⟨_, rfl⟩
          have hb : Below u213.heap.size u213 u214 := by rw [hu]; exact (Below.refl _ _).alloc (Nat.le_refl _) _
          have D2_4 : g2 ≠ g4 := by have := F4.out.lt; omega
          have D2_10 : g2 ≠ g10 := by have := F10.out.lt; omega
          rw [← hg, ← hu]
          have F2 := Lib.hid (CF.new HB.out.size hg hu)
          replace F4 := Lib.hid (F4.out.below hb)
          replace F6 := Lib.hid (F6.out.below hb)
          replace F8 := Lib.hid (F8.out.below hb)
          replace F10 := Lib.hid (F10.out.below hb)
          replace HB := Lib.hid (hbt HB.out hb)
          clear hb hg hu
          refine hK.out _ _ (True.intro) (fun hHeld214 => ?_)
          clear hK K
          try simp only [Act.put, List.getElem_toArray, List.getElem_cons_zero, List.getElem_cons_succ, List.setIfInBounds_toArray, List.set_cons_zero, List.set_cons_succ]
          refine wpAnyH_take (i := 11) (v := ?_) rfl (by kernel_rfl) (by kernel_rfl) (by kernel_rfl) (fun _ _ _ h => h) (Or.inl ⟨by rfl, ?ynf215⟩) (by assumption) ?qnf215
          case ynf215 => (intro wz hSw; (try dsimp only at hSw); go_simp <;> with_reducible rfl)
          try simp only [Act.put, List.getElem_toArray, List.getElem_cons_zero, List.getElem_cons_succ, List.setIfInBounds_toArray, List.set_cons_zero, List.set_cons_succ]
          refine wpAnyH_ready (rs := [12]) (by kernel_rfl) (by simp) ?_
          refine AllReadyH.cons rfl (fun K hK => ?_) AllReadyH.nil
          go_simp
          refine hK.out _ _ (True.intro) (fun hHeld216 => ?_)
          clear hK K
          try simp only [Act.put, List.getElem_toArray, List.getElem_cons_zero, List.getElem_cons_succ, List.setIfInBounds_toArray, List.set_cons_zero, List.set_cons_succ]
          refine wpAnyH_take (i := 13) (v := ?_) rfl (by kernel_rfl) (by kernel_rfl) (by kernel_rfl) (fun _ _ _ h => h) (Or.inl ⟨by rfl, ?ynf217⟩) (by assumption) ?qnf217
          case ynf217 => (intro wz hSw; (try dsimp only at hSw); go_simp <;> with_reducible rfl)
          try simp only [Act.put, List.getElem_toArray, List.getElem_cons_zero, List.getElem_cons_succ, List.setIfInBounds_toArray, List.set_cons_zero, List.set_cons_succ]
          refine wpAnyH_done (by kernel_rfl) ?_ _
          go_wp2
          exact HKEY.out _ _ _ _ _ _ _ HB.out F2.out F4.out F10.out F6.out F8.out D2_4 D2_10 D4_10
        exact AllReadyH.nil
      exact AllReadyH.nil
    refine AllReadyH.cons rfl (fun K hK => ?bnf218) ?cnf218
    case bnf218 =>
      go_simp
      refine (HN.out _).mono ?_
      rintro e u218 ⟨rfl, hs, hb⟩
      obtain ⟨g8, hg⟩ : ∃ g, g = u149.heap.size := ⟨_, rfl⟩
      rw [← hg] at hs ⊢
      have F8 := Lib.hid (RF_.new HB.out.size hg hs)
      replace F6 := Lib.hid (F6.out.below hb)
      replace HB := Lib.hid (hbt HB.out hb)
      clear hb hg hs
      refine hK.out _ _ (True.intro) (fun hHeld218 => ?_)
      clear hK K
      try simp only [Act.put, List.getElem_toArray, List.getElem_cons_zero, List.getElem_cons_succ, List.setIfInBounds_toArray, List.set_cons_zero, List.set_cons_succ]
      refine wpAnyH_ready (rs := [2, 4, 10]) (by kernel_rfl) (by simp) ?_
      refine AllReadyH.cons rfl (fun K hK => ?bnf219) ?cnf219
      case bnf219 =>
        go_simp
        obtain ⟨g2, hg⟩ : ∃ g, g = u218.heap.size := ⟨_, rfl⟩
        obtain ⟨u219, hu⟩ : ∃ X, X = u218.alloc (.cells (madeCells #[.int .i64 0] n) 3) := ⟨_, rfl⟩
        have hb : Below u218.heap.size u218 u219 := by rw [hu]; exact (Below.refl _ _).alloc (Nat.le_refl _) _
        rw [← hg, ← hu]
        have F2 := Lib.hid (CF.new HB.out.size hg hu)
        replace F6 := Lib.hid (F6.out.below hb)
        replace F8 := Lib.hid (F8.out.below hb)
        replace HB := Lib.hid (hbt HB.out hb)
        clear hb hg hu
        refine hK.out _ _ (True.intro) (fun hHeld219 => ?_)
        clear hK K
        try simp only [Act.put, List.getElem_toArray, List.getElem_cons_zero, List.getElem_cons_succ, List.setIfInBounds_toArray, List.set_cons_zero, List.set_cons_succ]
        refine wpAnyH_ready (rs := [4, 10]) (by kernel_rfl) (by simp) ?_
        refine AllReadyH.cons rfl (fun K hK => ?bnf220) ?cnf220
        case bnf220 =>
          go_simp
          obtain ⟨g4, hg⟩ : ∃ g, g = u219.heap.size := ⟨_, rfl⟩
          obtain ⟨u220, hu⟩ : ∃ X, X = u219.alloc (.cells (madeCells #[.int .i64 0] n) 3) := ⟨_, rfl⟩
          have hb : Below u219.heap.size u219 u220 := by rw [hu]; exact (Below.refl _ _).alloc (Nat.le_refl _) _
          have D2_4 : g2 ≠ g4 := by have := F2.out.lt; omega
          rw [← hg, ← hu]
          have F4 := Lib.hid (CF.new HB.out.size hg hu)
          replace F2 := Lib.hid (F2.out.below hb)
          replace F6 := Lib.hid (F6.out.below hb)
          replace F8 := Lib.hid (F8.out.below hb)
          replace HB := Lib.hid (hbt HB.out hb)
          clear hb hg hu
          refine hK.out _ _ (True.intro) (fun hHeld220 => ?_)
          clear hK K
          try simp only [Act.put, List.getElem_toArray, List.getElem_cons_zero, List.getElem_cons_succ, List.setIfInBounds_toArray, List.set_cons_zero, List.set_cons_succ]
          refine wpAnyH_ready (rs := [10]) (by kernel_rfl) (by simp) ?_
          refine AllReadyH.cons rfl (fun K hK => ?_) AllReadyH.nil
          go_simp
          obtain ⟨g10, hg⟩ : ∃ g, g = u220.heap.size := ⟨_, rfl⟩
          obtain ⟨u221, hu⟩ : ∃ X, X = u220.alloc (.cells (madeCells #[.int .i64 0] n) 3) := ⟨_, rfl⟩
          have hb : Below u220.heap.size u220 u221 := by rw [hu]; exact (Below.refl _ _).alloc (Nat.le_refl _) _
          have D2_10 : g2 ≠ g10 := by have := F2.out.lt; omega
          have D4_10 : g4 ≠ g10 := by have := F4.out.lt; omega
          rw [← hg, ← hu]
          have F10 := Lib.hid (CF.new HB.out.size hg hu)
          replace F2 := Lib.hid (F2.out.below hb)
          replace F4 := Lib.hid (F4.out.below hb)
          replace F6 := Lib.hid (F6.out.below hb)
          replace F8 := Lib.hid (F8.out.below hb)
          replace HB := Lib.hid (hbt HB.out hb)
          clear hb hg hu
          refine hK.out _ _ (True.intro) (fun hHeld221 => ?_)
          clear hK K
          try simp only [Act.put, List.getElem_toArray, List.getElem_cons_zero, List.getElem_cons_succ, List.setIfInBounds_toArray, List.set_cons_zero, List.set_cons_succ]
          refine wpAnyH_take (i := 11) (v := ?_) rfl (by kernel_rfl) (by kernel_rfl) (by kernel_rfl) (fun _ _ _ h => h) (Or.inl ⟨by rfl, ?ynf222⟩) (by assumption) ?qnf222
          case ynf222 => (intro wz hSw; (try dsimp only at hSw); go_simp <;> with_reducible rfl)
          try simp only [Act.put, List.getElem_toArray, List.getElem_cons_zero, List.getElem_cons_succ, List.setIfInBounds_toArray, List.set_cons_zero, List.set_cons_succ]
          refine wpAnyH_ready (rs := [12]) (by kernel_rfl) (by simp) ?_
          refine AllReadyH.cons rfl (fun K hK => ?_) AllReadyH.nil
          go_simp
          refine hK.out _ _ (True.intro) (fun hHeld223 => ?_)
          clear hK K
          try simp only [Act.put, List.getElem_toArray, List.getElem_cons_zero, List.getElem_cons_succ, List.setIfInBounds_toArray, List.set_cons_zero, List.set_cons_succ]
          refine wpAnyH_take (i := 13) (v := ?_) rfl (by kernel_rfl) (by kernel_rfl) (by kernel_rfl) (fun _ _ _ h => h) (Or.inl ⟨by rfl, ?ynf224⟩) (by assumption) ?qnf224
          case ynf224 => (intro wz hSw; (try dsimp only at hSw); go_simp <;> with_reducible rfl)
          try simp only [Act.put, List.getElem_toArray, List.getElem_cons_zero, List.getElem_cons_succ, List.setIfInBounds_toArray, List.set_cons_zero, List.set_cons_succ]
          refine wpAnyH_done (by kernel_rfl) ?_ _
          go_wp2
          exact HKEY.out _ _ _ _ _ _ _ HB.out F2.out F4.out F10.out F6.out F8.out D2_4 D2_10 D4_10
        refine AllReadyH.cons rfl (fun K hK => ?bnf225) ?cnf225
        case bnf225 =>
          go_simp
          obtain ⟨g10, hg⟩ : ∃ g, g = u219.heap.size := ⟨_, rfl⟩
          obtain ⟨u225, hu⟩ : ∃ X, X = u219.alloc (.cells (madeCells #[.int .i64 0] n) 3) := ⟨_, rfl⟩
          have hb : Below u219.heap.size u219 u225 := by rw [hu]; exact (Below.refl _ _).alloc (Nat.le_refl _) _
          have D2_10 : g2 ≠ g10 := by have := F2.out.lt; omega
          rw [← hg, ← hu]
          have F10 := Lib.hid (CF.new HB.out.size hg hu)
          replace F2 := Lib.hid (F2.out.below hb)
          replace F6 := Lib.hid (F6.out.below hb)
          replace F8 := Lib.hid (F8.out.below hb)
          replace HB := Lib.hid (hbt HB.out hb)
          clear hb hg hu
          refine hK.out _ _ (True.intro) (fun hHeld225 => ?_)
          clear hK K
          try simp only [Act.put, List.getElem_toArray, List.getElem_cons_zero, List.getElem_cons_succ, List.setIfInBounds_toArray, List.set_cons_zero, List.set_cons_succ]
          refine wpAnyH_ready (rs := [4]) (by kernel_rfl) (by simp) ?_
          refine AllReadyH.cons rfl (fun K hK => ?_) AllReadyH.nil
          go_simp
          obtain ⟨g4, hg⟩ : ∃ g, g = u225.heap.size := ⟨_, rfl⟩
          obtain ⟨u226, hu⟩ : ∃ X, X = u225.alloc (.cells (madeCells #[.int .i64 0] n) 3) := ⟨_, rfl⟩
          have hb : Below u225.heap.size u225 u226 := by rw [hu]; exact (Below.refl _ _).alloc (Nat.le_refl _) _
          have D2_4 : g2 ≠ g4 := by have := F2.out.lt; omega
          have D4_10 : g4 ≠ g10 := by have := F10.out.lt; omega
          rw [← hg, ← hu]
          have F4 := Lib.hid (CF.new HB.out.size hg hu)
          replace F2 := Lib.hid (F2.out.below hb)
          replace F6 := Lib.hid (F6.out.below hb)
          replace F8 := Lib.hid (F8.out.below hb)
          replace F10 := Lib.hid (F10.out.below hb)
          replace HB := Lib.hid (hbt HB.out hb)
          clear hb hg hu
          refine hK.out _ _ (True.intro) (fun hHeld226 => ?_)
          clear hK K
          try simp only [Act.put, List.getElem_toArray, List.getElem_cons_zero, List.getElem_cons_succ, List.setIfInBounds_toArray, List.set_cons_zero, List.set_cons_succ]
          refine wpAnyH_take (i := 11) (v := ?_) rfl (by kernel_rfl) (by kernel_rfl) (by kernel_rfl) (fun _ _ _ h => h) (Or.inl ⟨by rfl, ?ynf227⟩) (by assumption) ?qnf227
          case ynf227 => (intro wz hSw; (try dsimp only at hSw); go_simp <;> with_reducible rfl)
          try simp only [Act.put, List.getElem_toArray, List.getElem_cons_zero, List.getElem_cons_succ, List.setIfInBounds_toArray, List.set_cons_zero, List.set_cons_succ]
          refine wpAnyH_ready (rs := [12]) (by kernel_rfl) (by simp) ?_
          refine AllReadyH.cons rfl (fun K hK => ?_) AllReadyH.nil
          go_simp
          refine hK.out _ _ (True.intro) (fun hHeld228 => ?_)
          clear hK K
          try simp only [Act.put, List.getElem_toArray, List.getElem_cons_zero, List.getElem_cons_succ, List.setIfInBounds_toArray, List.set_cons_zero, List.set_cons_succ]
          refine wpAnyH_take (i := 13) (v := ?_) rfl (by kernel_rfl) (by kernel_rfl) (by kernel_rfl) (fun _ _ _ h => h) (Or.inl ⟨by rfl, ?ynf229⟩) (by assumption) ?qnf229
          case ynf229 => (intro wz hSw; (try dsimp only at hSw); go_simp <;> with_reducible rfl)
          try simp only [Act.put, List.getElem_toArray, List.getElem_cons_zero, List.getElem_cons_succ, List.setIfInBounds_toArray, List.set_cons_zero, List.set_cons_succ]
          refine wpAnyH_done (by kernel_rfl) ?_ _
          go_wp2
          exact HKEY.out _ _ _ _ _ _ _ HB.out F2.out F4.out F10.out F6.out F8.out D2_4 D2_10 D4_10
        exact AllReadyH.nil
      refine AllReadyH.cons rfl (fun K hK => ?bnf230) ?cnf230
      case bnf230 =>
        go_simp
        obtain ⟨g4, hg⟩ : ∃ g, g = u218.heap.size := ⟨_, rfl⟩
        obtain ⟨u230, hu⟩ : ∃ X, X = u218.alloc (.cells (madeCells #[.int .i64 0] n) 3) := ⟨_, rfl⟩
        have hb : Below u218.heap.size u218 u230 := by rw [hu]; exact (Below.refl _ _).alloc (Nat.le_refl _) _
        rw [← hg, ← hu]
        have F4 := Lib.hid (CF.new HB.out.size hg hu)
        replace F6 := Lib.hid (F6.out.below hb)
        replace F8 := Lib.hid (F8.out.below hb)
        replace HB := Lib.hid (hbt HB.out hb)
        clear hb hg hu
        refine hK.out _ _ (True.intro) (fun hHeld230 => ?_)
        clear hK K
        try simp only [Act.put, List.getElem_toArray, List.getElem_cons_zero, List.getElem_cons_succ, List.setIfInBounds_toArray, List.set_cons_zero, List.set_cons_succ]
        refine wpAnyH_ready (rs := [2, 10]) (by kernel_rfl) (by simp) ?_
        refine AllReadyH.cons rfl (fun K hK => ?bnf231) ?cnf231
        case bnf231 =>
          go_simp
          obtain ⟨g2, hg⟩ : ∃ g, g = u230.heap.size := ⟨_, rfl⟩
          obtain ⟨u231, hu⟩ : ∃ X, X = u230.alloc (.cells (madeCells #[.int .i64 0] n) 3) := ⟨_, rfl⟩
          have hb : Below u230.heap.size u230 u231 := by rw [hu]; exact (Below.refl _ _).alloc (Nat.le_refl _) _
          have D2_4 : g2 ≠ g4 := by have := F4.out.lt; omega
          rw [← hg, ← hu]
          have F2 := Lib.hid (CF.new HB.out.size hg hu)
          replace F4 := Lib.hid (F4.out.below hb)
          replace F6 := Lib.hid (F6.out.below hb)
          replace F8 := Lib.hid (F8.out.below hb)
          replace HB := Lib.hid (hbt HB.out hb)
          clear hb hg hu
          refine hK.out _ _ (True.intro) (fun hHeld231 => ?_)
          clear hK K
          try simp only [Act.put, List.getElem_toArray, List.getElem_cons_zero, List.getElem_cons_succ, List.setIfInBounds_toArray, List.set_cons_zero, List.set_cons_succ]
          refine wpAnyH_ready (rs := [10]) (by kernel_rfl) (by simp) ?_
          refine AllReadyH.cons rfl (fun K hK => ?_) AllReadyH.nil
          go_simp
          obtain ⟨g10, hg⟩ : ∃ g, g = u231.heap.size := ⟨_, rfl⟩
          obtain ⟨u232, hu⟩ : ∃ X, X = u231.alloc (.cells (madeCells #[.int .i64 0] n) 3) := ⟨_, rfl⟩
          have hb : Below u231.heap.size u231 u232 := by rw [hu]; exact (Below.refl _ _).alloc (Nat.le_refl _) _
          have D2_10 : g2 ≠ g10 := by have := F2.out.lt; omega
          have D4_10 : g4 ≠ g10 := by have := F4.out.lt; omega
          rw [← hg, ← hu]
          have F10 := Lib.hid (CF.new HB.out.size hg hu)
          replace F2 := Lib.hid (F2.out.below hb)
          replace F4 := Lib.hid (F4.out.below hb)
          replace F6 := Lib.hid (F6.out.below hb)
          replace F8 := Lib.hid (F8.out.below hb)
          replace HB := Lib.hid (hbt HB.out hb)
          clear hb hg hu
          refine hK.out _ _ (True.intro) (fun hHeld232 => ?_)
          clear hK K
          try simp only [Act.put, List.getElem_toArray, List.getElem_cons_zero, List.getElem_cons_succ, List.setIfInBounds_toArray, List.set_cons_zero, List.set_cons_succ]
          refine wpAnyH_take (i := 11) (v := ?_) rfl (by kernel_rfl) (by kernel_rfl) (by kernel_rfl) (fun _ _ _ h => h) (Or.inl ⟨by rfl, ?ynf233⟩) (by assumption) ?qnf233
          case ynf233 => (intro wz hSw; (try dsimp only at hSw); go_simp <;> with_reducible rfl)
          try simp only [Act.put, List.getElem_toArray, List.getElem_cons_zero, List.getElem_cons_succ, List.setIfInBounds_toArray, List.set_cons_zero, List.set_cons_succ]
          refine wpAnyH_ready (rs := [12]) (by kernel_rfl) (by simp) ?_
          refine AllReadyH.cons rfl (fun K hK => ?_) AllReadyH.nil
          go_simp
          refine hK.out _ _ (True.intro) (fun hHeld234 => ?_)
          clear hK K
          try simp only [Act.put, List.getElem_toArray, List.getElem_cons_zero, List.getElem_cons_succ, List.setIfInBounds_toArray, List.set_cons_zero, List.set_cons_succ]
          refine wpAnyH_take (i := 13) (v := ?_) rfl (by kernel_rfl) (by kernel_rfl) (by kernel_rfl) (fun _ _ _ h => h) (Or.inl ⟨by rfl, ?ynf235⟩) (by assumption) ?qnf235
          case ynf235 => (intro wz hSw; (try dsimp only at hSw); go_simp <;> with_reducible rfl)
          try simp only [Act.put, List.getElem_toArray, List.getElem_cons_zero, List.getElem_cons_succ, List.setIfInBounds_toArray, List.set_cons_zero, List.set_cons_succ]
          refine wpAnyH_done (by kernel_rfl) ?_ _
          go_wp2
          exact HKEY.out _ _ _ _ _ _ _ HB.out F2.out F4.out F10.out F6.out F8.out D2_4 D2_10 D4_10
        refine AllReadyH.cons rfl (fun K hK => ?bnf236) ?cnf236
        case bnf236 =>
          go_simp
          obtain ⟨g10, hg⟩ : ∃ g, g = u230.heap.size := ⟨_, rfl⟩
          obtain ⟨u236, hu⟩ : ∃ X, X = u230.alloc (.cells (madeCells #[.int .i64 0] n) 3) := ⟨_, rfl⟩
          have hb : Below u230.heap.size u230 u236 := by rw [hu]; exact (Below.refl _ _).alloc (Nat.le_refl _) _
          have D4_10 : g4 ≠ g10 := by have := F4.out.lt; omega
          rw [← hg, ← hu]
          have F10 := Lib.hid (CF.new HB.out.size hg hu)
          replace F4 := Lib.hid (F4.out.below hb)
          replace F6 := Lib.hid (F6.out.below hb)
          replace F8 := Lib.hid (F8.out.below hb)
          replace HB := Lib.hid (hbt HB.out hb)
          clear hb hg hu
          refine hK.out _ _ (True.intro) (fun hHeld236 => ?_)
          clear hK K
          try simp only [Act.put, List.getElem_toArray, List.getElem_cons_zero, List.getElem_cons_succ, List.setIfInBounds_toArray, List.set_cons_zero, List.set_cons_succ]
          refine wpAnyH_ready (rs := [2]) (by kernel_rfl) (by simp) ?_
          refine AllReadyH.cons rfl (fun K hK => ?_) AllReadyH.nil
          go_simp
          obtain ⟨g2, hg⟩ : ∃ g, g = u236.heap.size := ⟨_, rfl⟩
          obtain ⟨u237, hu⟩ : ∃ X, X = u236.alloc (.cells (madeCells #[.int .i64 0] n) 3) := ⟨_, rfl⟩
          have hb : Below u236.heap.size u236 u237 := by rw [hu]; exact (Below.refl _ _).alloc (Nat.le_refl _) _
          have D2_4 : g2 ≠ g4 := by have := F4.out.lt; omega
          have D2_10 : g2 ≠ g10 := by have := F10.out.lt; omega
          rw [← hg, ← hu]
          have F2 := Lib.hid (CF.new HB.out.size hg hu)
          replace F4 := Lib.hid (F4.out.below hb)
          replace F6 := Lib.hid (F6.out.below hb)
          replace F8 := Lib.hid (F8.out.below hb)
          replace F10 := Lib.hid (F10.out.below hb)
          replace HB := Lib.hid (hbt HB.out hb)
          clear hb hg hu
          refine hK.out _ _ (True.intro) (fun hHeld237 => ?_)
          clear hK K
          try simp only [Act.put, List.getElem_toArray, List.getElem_cons_zero, List.getElem_cons_succ, List.setIfInBounds_toArray, List.set_cons_zero, List.set_cons_succ]
          refine wpAnyH_take (i := 11) (v := ?_) rfl (by kernel_rfl) (by kernel_rfl) (by kernel_rfl) (fun _ _ _ h => h) (Or.inl ⟨by rfl, ?ynf238⟩) (by assumption) ?qnf238
          case ynf238 => (intro wz hSw; (try dsimp only at hSw); go_simp <;> with_reducible rfl)
          try simp only [Act.put, List.getElem_toArray, List.getElem_cons_zero, List.getElem_cons_succ, List.setIfInBounds_toArray, List.set_cons_zero, List.set_cons_succ]
          refine wpAnyH_ready (rs := [12]) (by kernel_rfl) (by simp) ?_
          refine AllReadyH.cons rfl (fun K hK => ?_) AllReadyH.nil
          go_simp
          refine hK.out _ _ (True.intro) (fun hHeld239 => ?_)
          clear hK K
          try simp only [Act.put, List.getElem_toArray, List.getElem_cons_zero, List.getElem_cons_succ, List.setIfInBounds_toArray, List.set_cons_zero, List.set_cons_succ]
          refine wpAnyH_take (i := 13) (v := ?_) rfl (by kernel_rfl) (by kernel_rfl) (by kernel_rfl) (fun _ _ _ h => h) (Or.inl ⟨by rfl, ?ynf240⟩) (by assumption) ?qnf240
          case ynf240 => (intro wz hSw; (try dsimp only at hSw); go_simp <;> with_reducible rfl)
          try simp only [Act.put, List.getElem_toArray, List.getElem_cons_zero, List.getElem_cons_succ, List.setIfInBounds_toArray, List.set_cons_zero, List.set_cons_succ]
          refine wpAnyH_done (by kernel_rfl) ?_ _
          go_wp2
          exact HKEY.out _ _ _ _ _ _ _ HB.out F2.out F4.out F10.out F6.out F8.out D2_4 D2_10 D4_10
        exact AllReadyH.nil
      refine AllReadyH.cons rfl (fun K hK => ?bnf241) ?cnf241
      case bnf241 =>
        go_simp
        obtain ⟨g10, hg⟩ : ∃ g, g = u218.heap.size := ⟨_, rfl⟩
        obtain ⟨u241, hu⟩ : ∃ X, X = u218.alloc (.cells (madeCells #[.int .i64 0] n) 3) := ⟨_, rfl⟩
        have hb : Below u218.heap.size u218 u241 := by rw [hu]; exact (Below.refl _ _).alloc (Nat.le_refl _) _
        rw [← hg, ← hu]
        have F10 := Lib.hid (CF.new HB.out.size hg hu)
        replace F6 := Lib.hid (F6.out.below hb)
        replace F8 := Lib.hid (F8.out.below hb)
        replace HB := Lib.hid (hbt HB.out hb)
        clear hb hg hu
        refine hK.out _ _ (True.intro) (fun hHeld241 => ?_)
        clear hK K
        try simp only [Act.put, List.getElem_toArray, List.getElem_cons_zero, List.getElem_cons_succ, List.setIfInBounds_toArray, List.set_cons_zero, List.set_cons_succ]
        refine wpAnyH_ready (rs := [2, 4]) (by kernel_rfl) (by simp) ?_
        refine AllReadyH.cons rfl (fun K hK => ?bnf242) ?cnf242
        case bnf242 =>
          go_simp
          obtain ⟨g2, hg⟩ : ∃ g, g = u241.heap.size := ⟨_, rfl⟩
          obtain ⟨u242, hu⟩ : ∃ X, X = u241.alloc (.cells (madeCells #[.int .i64 0] n) 3) := ⟨_, rfl⟩
          have hb : Below u241.heap.size u241 u242 := by rw [hu]; exact (Below.refl _ _).alloc (Nat.le_refl _) _
          have D2_10 : g2 ≠ g10 := by have := F10.out.lt; omega
          rw [← hg, ← hu]
          have F2 := Lib.hid (CF.new HB.out.size hg hu)
          replace F6 := Lib.hid (F6.out.below hb)
          replace F8 := Lib.hid (F8.out.below hb)
          replace F10 := Lib.hid (F10.out.below hb)
          replace HB := Lib.hid (hbt HB.out hb)
          clear hb hg hu
          refine hK.out _ _ (True.intro) (fun hHeld242 => ?_)
          clear hK K
          try simp only [Act.put, List.getElem_toArray, List.getElem_cons_zero, List.getElem_cons_succ, List.setIfInBounds_toArray, List.set_cons_zero, List.set_cons_succ]
          refine wpAnyH_ready (rs := [4]) (by kernel_rfl) (by simp) ?_
          refine AllReadyH.cons rfl (fun K hK => ?_) AllReadyH.nil
          go_simp
          obtain ⟨g4, hg⟩ : ∃ g, g = u242.heap.size := ⟨_, rfl⟩
          obtain ⟨u243, hu⟩ : ∃ X, X = u242.alloc (.cells (madeCells #[.int .i64 0] n) 3) := ⟨_, rfl⟩
          have hb : Below u242.heap.size u242 u243 := by rw [hu]; exact (Below.refl _ _).alloc (Nat.le_refl _) _
          have D2_4 : g2 ≠ g4 := by have := F2.out.lt; omega
          have D4_10 : g4 ≠ g10 := by have := F10.out.lt; omega
          rw [← hg, ← hu]
          have F4 := Lib.hid (CF.new HB.out.size hg hu)
          replace F2 := Lib.hid (F2.out.below hb)
          replace F6 := Lib.hid (F6.out.below hb)
          replace F8 := Lib.hid (F8.out.below hb)
          replace F10 := Lib.hid (F10.out.below hb)
          replace HB := Lib.hid (hbt HB.out hb)
          clear hb hg hu
          refine hK.out _ _ (True.intro) (fun hHeld243 => ?_)
          clear hK K
          try simp only [Act.put, List.getElem_toArray, List.getElem_cons_zero, List.getElem_cons_succ, List.setIfInBounds_toArray, List.set_cons_zero, List.set_cons_succ]
          refine wpAnyH_take (i := 11) (v := ?_) rfl (by kernel_rfl) (by kernel_rfl) (by kernel_rfl) (fun _ _ _ h => h) (Or.inl ⟨by rfl, ?ynf244⟩) (by assumption) ?qnf244
          case ynf244 => (intro wz hSw; (try dsimp only at hSw); go_simp <;> with_reducible rfl)
          try simp only [Act.put, List.getElem_toArray, List.getElem_cons_zero, List.getElem_cons_succ, List.setIfInBounds_toArray, List.set_cons_zero, List.set_cons_succ]
          refine wpAnyH_ready (rs := [12]) (by kernel_rfl) (by simp) ?_
          refine AllReadyH.cons rfl (fun K hK => ?_) AllReadyH.nil
          go_simp
          refine hK.out _ _ (True.intro) (fun hHeld245 => ?_)
          clear hK K
          try simp only [Act.put, List.getElem_toArray, List.getElem_cons_zero, List.getElem_cons_succ, List.setIfInBounds_toArray, List.set_cons_zero, List.set_cons_succ]
          refine wpAnyH_take (i := 13) (v := ?_) rfl (by kernel_rfl) (by kernel_rfl) (by kernel_rfl) (fun _ _ _ h => h) (Or.inl ⟨by rfl, ?ynf246⟩) (by assumption) ?qnf246
          case ynf246 => (intro wz hSw; (try dsimp only at hSw); go_simp <;> with_reducible rfl)
          try simp only [Act.put, List.getElem_toArray, List.getElem_cons_zero, List.getElem_cons_succ, List.setIfInBounds_toArray, List.set_cons_zero, List.set_cons_succ]
          refine wpAnyH_done (by kernel_rfl) ?_ _
          go_wp2
          exact HKEY.out _ _ _ _ _ _ _ HB.out F2.out F4.out F10.out F6.out F8.out D2_4 D2_10 D4_10
        refine AllReadyH.cons rfl (fun K hK => ?bnf247) ?cnf247
        case bnf247 =>
          go_simp
          obtain ⟨g4, hg⟩ : ∃ g, g = u241.heap.size := ⟨_, rfl⟩
          obtain ⟨u247, hu⟩ : ∃ X, X = u241.alloc (.cells (madeCells #[.int .i64 0] n) 3) := ⟨_, rfl⟩
          have hb : Below u241.heap.size u241 u247 := by rw [hu]; exact (Below.refl _ _).alloc (Nat.le_refl _) _
          have D4_10 : g4 ≠ g10 := by have := F10.out.lt; omega
          rw [← hg, ← hu]
          have F4 := Lib.hid (CF.new HB.out.size hg hu)
          replace F6 := Lib.hid (F6.out.below hb)
          replace F8 := Lib.hid (F8.out.below hb)
          replace F10 := Lib.hid (F10.out.below hb)
          replace HB := Lib.hid (hbt HB.out hb)
          clear hb hg hu
          refine hK.out _ _ (True.intro) (fun hHeld247 => ?_)
          clear hK K
          try simp only [Act.put, List.getElem_toArray, List.getElem_cons_zero, List.getElem_cons_succ, List.setIfInBounds_toArray, List.set_cons_zero, List.set_cons_succ]
          refine wpAnyH_ready (rs := [2]) (by kernel_rfl) (by simp) ?_
          refine AllReadyH.cons rfl (fun K hK => ?_) AllReadyH.nil
          go_simp
          obtain ⟨g2, hg⟩ : ∃ g, g = u247.heap.size := ⟨_, rfl⟩
          obtain ⟨u248, hu⟩ : ∃ X, X = u247.alloc (.cells (madeCells #[.int .i64 0] n) 3) := ⟨_, rfl⟩
          have hb : Below u247.heap.size u247 u248 := by rw [hu]; exact (Below.refl _ _).alloc (Nat.le_refl _) _
          have D2_4 : g2 ≠ g4 := by have := F4.out.lt; omega
          have D2_10 : g2 ≠ g10 := by have := F10.out.lt; omega
          rw [← hg, ← hu]
          have F2 := Lib.hid (CF.new HB.out.size hg hu)
          replace F4 := Lib.hid (F4.out.below hb)
          replace F6 := Lib.hid (F6.out.below hb)
          replace F8 := Lib.hid (F8.out.below hb)
          replace F10 := Lib.hid (F10.out.below hb)
          replace HB := Lib.hid (hbt HB.out hb)
          clear hb hg hu
          refine hK.out _ _ (True.intro) (fun hHeld248 => ?_)
          clear hK K
          try simp only [Act.put, List.getElem_toArray, List.getElem_cons_zero, List.getElem_cons_succ, List.setIfInBounds_toArray, List.set_cons_zero, List.set_cons_succ]
          refine wpAnyH_take (i := 11) (v := ?_) rfl (by kernel_rfl) (by kernel_rfl) (by kernel_rfl) (fun _ _ _ h => h) (Or.inl ⟨by rfl, ?ynf249⟩) (by assumption) ?qnf249
          case ynf249 => (intro wz hSw; (try dsimp only at hSw); go_simp <;> with_reducible rfl)
          try simp only [Act.put, List.getElem_toArray, List.getElem_cons_zero, List.getElem_cons_succ, List.setIfInBounds_toArray, List.set_cons_zero, List.set_cons_succ]
          refine wpAnyH_ready (rs := [12]) (by kernel_rfl) (by simp) ?_
          refine AllReadyH.cons rfl (fun K hK => ?_) AllReadyH.nil
          go_simp
          refine hK.out _ _ (True.intro) (fun hHeld250 => ?_)
          clear hK K
          try simp only [Act.put, List.getElem_toArray, List.getElem_cons_zero, List.getElem_cons_succ, List.setIfInBounds_toArray, List.set_cons_zero, List.set_cons_succ]
          refine wpAnyH_take (i := 13) (v := ?_) rfl (by kernel_rfl) (by kernel_rfl) (by kernel_rfl) (fun _ _ _ h => h) (Or.inl ⟨by rfl, ?ynf251⟩) (by assumption) ?qnf251
          case ynf251 => (intro wz hSw; (try dsimp only at hSw); go_simp <;> with_reducible rfl)
          try simp only [Act.put, List.getElem_toArray, List.getElem_cons_zero, List.getElem_cons_succ, List.setIfInBounds_toArray, List.set_cons_zero, List.set_cons_succ]
          refine wpAnyH_done (by kernel_rfl) ?_ _
          go_wp2
          exact HKEY.out _ _ _ _ _ _ _ HB.out F2.out F4.out F10.out F6.out F8.out D2_4 D2_10 D4_10
        exact AllReadyH.nil
      exact AllReadyH.nil
    refine AllReadyH.cons rfl (fun K hK => ?bnf252) ?cnf252
    case bnf252 =>
      go_simp
      obtain ⟨g10, hg⟩ : ∃ g, g = u149.heap.size := ⟨_, rfl⟩
      obtain ⟨u252, hu⟩ : ∃ X, X = u149.alloc (.cells (madeCells #[.int .i64 0] n) 3) := ⟨_, rfl⟩
      have hb : Below u149.heap.size u149 u252 := by rw [hu]; exact (Below.refl _ _).alloc (Nat.le_refl _) _
      rw [← hg, ← hu]
      have F10 := Lib.hid (CF.new HB.out.size hg hu)
      replace F6 := Lib.hid (F6.out.below hb)
      replace HB := Lib.hid (hbt HB.out hb)
      clear hb hg hu
      refine hK.out _ _ (True.intro) (fun hHeld252 => ?_)
      clear hK K
      try simp only [Act.put, List.getElem_toArray, List.getElem_cons_zero, List.getElem_cons_succ, List.setIfInBounds_toArray, List.set_cons_zero, List.set_cons_succ]
      refine wpAnyH_ready (rs := [2, 4, 8]) (by kernel_rfl) (by simp) ?_
      refine AllReadyH.cons rfl (fun K hK => ?bnf253) ?cnf253
      case bnf253 =>
        go_simp
        obtain ⟨g2, hg⟩ : ∃ g, g = u252.heap.size := ⟨_, rfl⟩
        obtain ⟨u253, hu⟩ : ∃ X, X = u252.alloc (.cells (madeCells #[.int .i64 0] n) 3) := ⟨_, rfl⟩
        have hb : Below u252.heap.size u252 u253 := by rw [hu]; exact (Below.refl _ _).alloc (Nat.le_refl _) _
        have D2_10 : g2 ≠ g10 := by have := F10.out.lt; omega
        rw [← hg, ← hu]
        have F2 := Lib.hid (CF.new HB.out.size hg hu)
        replace F6 := Lib.hid (F6.out.below hb)
        replace F10 := Lib.hid (F10.out.below hb)
        replace HB := Lib.hid (hbt HB.out hb)
        clear hb hg hu
        refine hK.out _ _ (True.intro) (fun hHeld253 => ?_)
        clear hK K
        try simp only [Act.put, List.getElem_toArray, List.getElem_cons_zero, List.getElem_cons_succ, List.setIfInBounds_toArray, List.set_cons_zero, List.set_cons_succ]
        refine wpAnyH_ready (rs := [4, 8]) (by kernel_rfl) (by simp) ?_
        refine AllReadyH.cons rfl (fun K hK => ?bnf254) ?cnf254
        case bnf254 =>
          go_simp
          obtain ⟨g4, hg⟩ : ∃ g, g = u253.heap.size := ⟨_, rfl⟩
          obtain ⟨u254, hu⟩ : ∃ X, X = u253.alloc (.cells (madeCells #[.int .i64 0] n) 3) := ⟨_, rfl⟩
          have hb : Below u253.heap.size u253 u254 := by rw [hu]; exact (Below.refl _ _).alloc (Nat.le_refl _) _
          have D2_4 : g2 ≠ g4 := by have := F2.out.lt; omega
          have D4_10 : g4 ≠ g10 := by have := F10.out.lt; omega
          rw [← hg, ← hu]
          have F4 := Lib.hid (CF.new HB.out.size hg hu)
          replace F2 := Lib.hid (F2.out.below hb)
          replace F6 := Lib.hid (F6.out.below hb)
          replace F10 := Lib.hid (F10.out.below hb)
          replace HB := Lib.hid (hbt HB.out hb)
          clear hb hg hu
          refine hK.out _ _ (True.intro) (fun hHeld254 => ?_)
          clear hK K
          try simp only [Act.put, List.getElem_toArray, List.getElem_cons_zero, List.getElem_cons_succ, List.setIfInBounds_toArray, List.set_cons_zero, List.set_cons_succ]
          refine wpAnyH_ready (rs := [8]) (by kernel_rfl) (by simp) ?_
          refine AllReadyH.cons rfl (fun K hK => ?_) AllReadyH.nil
          go_simp
          refine (HN.out _).mono ?_
          rintro e u255 ⟨rfl, hs, hb⟩
          obtain ⟨g8, hg⟩ : ∃ g, g = u254.heap.size := ⟨_, rfl⟩
          rw [← hg] at hs ⊢
          have F8 := Lib.hid (RF_.new HB.out.size hg hs)
          replace F2 := Lib.hid (F2.out.below hb)
          replace F4 := Lib.hid (F4.out.below hb)
          replace F6 := Lib.hid (F6.out.below hb)
          replace F10 := Lib.hid (F10.out.below hb)
          replace HB := Lib.hid (hbt HB.out hb)
          clear hb hg hs
          refine hK.out _ _ (True.intro) (fun hHeld255 => ?_)
          clear hK K
          try simp only [Act.put, List.getElem_toArray, List.getElem_cons_zero, List.getElem_cons_succ, List.setIfInBounds_toArray, List.set_cons_zero, List.set_cons_succ]
          refine wpAnyH_take (i := 11) (v := ?_) rfl (by kernel_rfl) (by kernel_rfl) (by kernel_rfl) (fun _ _ _ h => h) (Or.inl ⟨by rfl, ?ynf256⟩) (by assumption) ?qnf256
          case ynf256 => (intro wz hSw; (try dsimp only at hSw); go_simp <;> with_reducible rfl)
          try simp only [Act.put, List.getElem_toArray, List.getElem_cons_zero, List.getElem_cons_succ, List.setIfInBounds_toArray, List.set_cons_zero, List.set_cons_succ]
          refine wpAnyH_ready (rs := [12]) (by kernel_rfl) (by simp) ?_
          refine AllReadyH.cons rfl (fun K hK => ?_) AllReadyH.nil
          go_simp
          refine hK.out _ _ (True.intro) (fun hHeld257 => ?_)
          clear hK K
          try simp only [Act.put, List.getElem_toArray, List.getElem_cons_zero, List.getElem_cons_succ, List.setIfInBounds_toArray, List.set_cons_zero, List.set_cons_succ]
          refine wpAnyH_take (i := 13) (v := ?_) rfl (by kernel_rfl) (by kernel_rfl) (by kernel_rfl) (fun _ _ _ h => h) (Or.inl ⟨by rfl, ?ynf258⟩) (by assumption) ?qnf258
          case ynf258 => (intro wz hSw; (try dsimp only at hSw); go_simp <;> with_reducible rfl)
          try simp only [Act.put, List.getElem_toArray, List.getElem_cons_zero, List.getElem_cons_succ, List.setIfInBounds_toArray, List.set_cons_zero, List.set_cons_succ]
          refine wpAnyH_done (by kernel_rfl) ?_ _
          go_wp2
          exact HKEY.out _ _ _ _ _ _ _ HB.out F2.out F4.out F10.out F6.out F8.out D2_4 D2_10 D4_10
        refine AllReadyH.cons rfl (fun K hK => ?bnf259) ?cnf259
        case bnf259 =>
          go_simp
          refine (HN.out _).mono ?_
          rintro e u259 ⟨rfl, hs, hb⟩
          obtain ⟨g8, hg⟩ : ∃ g, g = u253.heap.size := ⟨_, rfl⟩
          rw [← hg] at hs ⊢
          have F8 := Lib.hid (RF_.new HB.out.size hg hs)
          replace F2 := Lib.hid (F2.out.below hb)
          replace F6 := Lib.hid (F6.out.below hb)
          replace F10 := Lib.hid (F10.out.below hb)
          replace HB := Lib.hid (hbt HB.out hb)
          clear hb hg hs
          refine hK.out _ _ (True.intro) (fun hHeld259 => ?_)
          clear hK K
          try simp only [Act.put, List.getElem_toArray, List.getElem_cons_zero, List.getElem_cons_succ, List.setIfInBounds_toArray, List.set_cons_zero, List.set_cons_succ]
          refine wpAnyH_ready (rs := [4]) (by kernel_rfl) (by simp) ?_
          refine AllReadyH.cons rfl (fun K hK => ?_) AllReadyH.nil
          go_simp
          obtain ⟨g4, hg⟩ : ∃ g, g = u259.heap.size := ⟨_, rfl⟩
          obtain ⟨u260, hu⟩ : ∃ X, X = u259.alloc (.cells (madeCells #[.int .i64 0] n) 3) := ⟨_, rfl⟩
          have hb : Below u259.heap.size u259 u260 := by rw [hu]; exact (Below.refl _ _).alloc (Nat.le_refl _) _
          have D2_4 : g2 ≠ g4 := by have := F2.out.lt; omega
          have D4_10 : g4 ≠ g10 := by have := F10.out.lt; omega
          rw [← hg, ← hu]
          have F4 := Lib.hid (CF.new HB.out.size hg hu)
          replace F2 := Lib.hid (F2.out.below hb)
          replace F6 := Lib.hid (F6.out.below hb)
          replace F8 := Lib.hid (F8.out.below hb)
          replace F10 := Lib.hid (F10.out.below hb)
          replace HB := Lib.hid (hbt HB.out hb)
          clear hb hg hu
          refine hK.out _ _ (True.intro) (fun hHeld260 => ?_)
          clear hK K
          try simp only [Act.put, List.getElem_toArray, List.getElem_cons_zero, List.getElem_cons_succ, List.setIfInBounds_toArray, List.set_cons_zero, List.set_cons_succ]
          refine wpAnyH_take (i := 11) (v := ?_) rfl (by kernel_rfl) (by kernel_rfl) (by kernel_rfl) (fun _ _ _ h => h) (Or.inl ⟨by rfl, ?ynf261⟩) (by assumption) ?qnf261
          case ynf261 => (intro wz hSw; (try dsimp only at hSw); go_simp <;> with_reducible rfl)
          try simp only [Act.put, List.getElem_toArray, List.getElem_cons_zero, List.getElem_cons_succ, List.setIfInBounds_toArray, List.set_cons_zero, List.set_cons_succ]
          refine wpAnyH_ready (rs := [12]) (by kernel_rfl) (by simp) ?_
          refine AllReadyH.cons rfl (fun K hK => ?_) AllReadyH.nil
          go_simp
          refine hK.out _ _ (True.intro) (fun hHeld262 => ?_)
          clear hK K
          try simp only [Act.put, List.getElem_toArray, List.getElem_cons_zero, List.getElem_cons_succ, List.setIfInBounds_toArray, List.set_cons_zero, List.set_cons_succ]
          refine wpAnyH_take (i := 13) (v := ?_) rfl (by kernel_rfl) (by kernel_rfl) (by kernel_rfl) (fun _ _ _ h => h) (Or.inl ⟨by rfl, ?ynf263⟩) (by assumption) ?qnf263
          case ynf263 => (intro wz hSw; (try dsimp only at hSw); go_simp <;> with_reducible rfl)
          try simp only [Act.put, List.getElem_toArray, List.getElem_cons_zero, List.getElem_cons_succ, List.setIfInBounds_toArray, List.set_cons_zero, List.set_cons_succ]
          refine wpAnyH_done (by kernel_rfl) ?_ _
          go_wp2
          exact HKEY.out _ _ _ _ _ _ _ HB.out F2.out F4.out F10.out F6.out F8.out D2_4 D2_10 D4_10
        exact AllReadyH.nil
      refine AllReadyH.cons rfl (fun K hK => ?bnf264) ?cnf264
      case bnf264 =>
        go_simp
        obtain ⟨g4, hg⟩ : ∃ g, g = u252.heap.size := ⟨_, rfl⟩
        obtain ⟨u264, hu⟩ : ∃ X, X = u252.alloc (.cells (madeCells #[.int .i64 0] n) 3) := ⟨_, rfl⟩
        have hb : Below u252.heap.size u252 u264 := by rw [hu]; exact (Below.refl _ _).alloc (Nat.le_refl _) _
        have D4_10 : g4 ≠ g10 := by have := F10.out.lt; omega
        rw [← hg, ← hu]
        have F4 := Lib.hid (CF.new HB.out.size hg hu)
        replace F6 := Lib.hid (F6.out.below hb)
        replace F10 := Lib.hid (F10.out.below hb)
        replace HB := Lib.hid (hbt HB.out hb)
        clear hb hg hu
        refine hK.out _ _ (True.intro) (fun hHeld264 => ?_)
        clear hK K
        try simp only [Act.put, List.getElem_toArray, List.getElem_cons_zero, List.getElem_cons_succ, List.setIfInBounds_toArray, List.set_cons_zero, List.set_cons_succ]
        refine wpAnyH_ready (rs := [2, 8]) (by kernel_rfl) (by simp) ?_
        refine AllReadyH.cons rfl (fun K hK => ?bnf265) ?cnf265
        case bnf265 =>
          go_simp
          obtain ⟨g2, hg⟩ : ∃ g, g = u264.heap.size := ⟨_, rfl⟩
          obtain ⟨u265, hu⟩ : ∃ X, X = u264.alloc (.cells (madeCells #[.int .i64 0] n) 3) := ⟨_, rfl⟩
          have hb : Below u264.heap.size u264 u265 := by rw [hu]; exact (Below.refl _ _).alloc (Nat.le_refl _) _
          have D2_4 : g2 ≠ g4 := by have := F4.out.lt; omega
          have D2_10 : g2 ≠ g10 := by have := F10.out.lt; omega
          rw [← hg, ← hu]
          have F2 := Lib.hid (CF.new HB.out.size hg hu)
          replace F4 := Lib.hid (F4.out.below hb)
          replace F6 := Lib.hid (F6.out.below hb)
          replace F10 := Lib.hid (F10.out.below hb)
          replace HB := Lib.hid (hbt HB.out hb)
          clear hb hg hu
          refine hK.out _ _ (True.intro) (fun hHeld265 => ?_)
          clear hK K
          try simp only [Act.put, List.getElem_toArray, List.getElem_cons_zero, List.getElem_cons_succ, List.setIfInBounds_toArray, List.set_cons_zero, List.set_cons_succ]
          refine wpAnyH_ready (rs := [8]) (by kernel_rfl) (by simp) ?_
          refine AllReadyH.cons rfl (fun K hK => ?_) AllReadyH.nil
          go_simp
          refine (HN.out _).mono ?_
          rintro e u266 ⟨rfl, hs, hb⟩
          obtain ⟨g8, hg⟩ : ∃ g, g = u265.heap.size := ⟨_, rfl⟩
          rw [← hg] at hs ⊢
          have F8 := Lib.hid (RF_.new HB.out.size hg hs)
          replace F2 := Lib.hid (F2.out.below hb)
          replace F4 := Lib.hid (F4.out.below hb)
          replace F6 := Lib.hid (F6.out.below hb)
          replace F10 := Lib.hid (F10.out.below hb)
          replace HB := Lib.hid (hbt HB.out hb)
          clear hb hg hs
          refine hK.out _ _ (True.intro) (fun hHeld266 => ?_)
          clear hK K
          try simp only [Act.put, List.getElem_toArray, List.getElem_cons_zero, List.getElem_cons_succ, List.setIfInBounds_toArray, List.set_cons_zero, List.set_cons_succ]
          refine wpAnyH_take (i := 11) (v := ?_) rfl (by kernel_rfl) (by kernel_rfl) (by kernel_rfl) (fun _ _ _ h => h) (Or.inl ⟨by rfl, ?ynf267⟩) (by assumption) ?qnf267
          case ynf267 => (intro wz hSw; (try dsimp only at hSw); go_simp <;> with_reducible rfl)
          try simp only [Act.put, List.getElem_toArray, List.getElem_cons_zero, List.getElem_cons_succ, List.setIfInBounds_toArray, List.set_cons_zero, List.set_cons_succ]
          refine wpAnyH_ready (rs := [12]) (by kernel_rfl) (by simp) ?_
          refine AllReadyH.cons rfl (fun K hK => ?_) AllReadyH.nil
          go_simp
          refine hK.out _ _ (True.intro) (fun hHeld268 => ?_)
          clear hK K
          try simp only [Act.put, List.getElem_toArray, List.getElem_cons_zero, List.getElem_cons_succ, List.setIfInBounds_toArray, List.set_cons_zero, List.set_cons_succ]
          refine wpAnyH_take (i := 13) (v := ?_) rfl (by kernel_rfl) (by kernel_rfl) (by kernel_rfl) (fun _ _ _ h => h) (Or.inl ⟨by rfl, ?ynf269⟩) (by assumption) ?qnf269
          case ynf269 => (intro wz hSw; (try dsimp only at hSw); go_simp <;> with_reducible rfl)
          try simp only [Act.put, List.getElem_toArray, List.getElem_cons_zero, List.getElem_cons_succ, List.setIfInBounds_toArray, List.set_cons_zero, List.set_cons_succ]
          refine wpAnyH_done (by kernel_rfl) ?_ _
          go_wp2
          exact HKEY.out _ _ _ _ _ _ _ HB.out F2.out F4.out F10.out F6.out F8.out D2_4 D2_10 D4_10
        refine AllReadyH.cons rfl (fun K hK => ?bnf270) ?cnf270
        case bnf270 =>
          go_simp
          refine (HN.out _).mono ?_
          rintro e u270 ⟨rfl, hs, hb⟩
          obtain ⟨g8, hg⟩ : ∃ g, g = u264.heap.size := ⟨_, rfl⟩
          rw [← hg] at hs ⊢
          have F8 := Lib.hid (RF_.new HB.out.size hg hs)
          replace F4 := Lib.hid (F4.out.below hb)
          replace F6 := Lib.hid (F6.out.below hb)
          replace F10 := Lib.hid (F10.out.below hb)
          replace HB := Lib.hid (hbt HB.out hb)
          clear hb hg hs
          refine hK.out _ _ (True.intro) (fun hHeld270 => ?_)
          clear hK K
          try simp only [Act.put, List.getElem_toArray, List.getElem_cons_zero, List.getElem_cons_succ, List.setIfInBounds_toArray, List.set_cons_zero, List.set_cons_succ]
          refine wpAnyH_ready (rs := [2]) (by kernel_rfl) (by simp) ?_
          refine AllReadyH.cons rfl (fun K hK => ?_) AllReadyH.nil
          go_simp
          obtain ⟨g2, hg⟩ : ∃ g, g = u270.heap.size := ⟨_, rfl⟩
          obtain ⟨u271, hu⟩ : ∃ X, X = u270.alloc (.cells (madeCells #[.int .i64 0] n) 3) := ⟨_, rfl⟩
          have hb : Below u270.heap.size u270 u271 := by rw [hu]; exact (Below.refl _ _).alloc (Nat.le_refl _) _
          have D2_4 : g2 ≠ g4 := by have := F4.out.lt; omega
          have D2_10 : g2 ≠ g10 := by have := F10.out.lt; omega
          rw [← hg, ← hu]
          have F2 := Lib.hid (CF.new HB.out.size hg hu)
          replace F4 := Lib.hid (F4.out.below hb)
          replace F6 := Lib.hid (F6.out.below hb)
          replace F8 := Lib.hid (F8.out.below hb)
          replace F10 := Lib.hid (F10.out.below hb)
          replace HB := Lib.hid (hbt HB.out hb)
          clear hb hg hu
          refine hK.out _ _ (True.intro) (fun hHeld271 => ?_)
          clear hK K
          try simp only [Act.put, List.getElem_toArray, List.getElem_cons_zero, List.getElem_cons_succ, List.setIfInBounds_toArray, List.set_cons_zero, List.set_cons_succ]
          refine wpAnyH_take (i := 11) (v := ?_) rfl (by kernel_rfl) (by kernel_rfl) (by kernel_rfl) (fun _ _ _ h => h) (Or.inl ⟨by rfl, ?ynf272⟩) (by assumption) ?qnf272
          case ynf272 => (intro wz hSw; (try dsimp only at hSw); go_simp <;> with_reducible rfl)
          try simp only [Act.put, List.getElem_toArray, List.getElem_cons_zero, List.getElem_cons_succ, List.setIfInBounds_toArray, List.set_cons_zero, List.set_cons_succ]
          refine wpAnyH_ready (rs := [12]) (by kernel_rfl) (by simp) ?_
          refine AllReadyH.cons rfl (fun K hK => ?_) AllReadyH.nil
          go_simp
          refine hK.out _ _ (True.intro) (fun hHeld273 => ?_)
          clear hK K
          try simp only [Act.put, List.getElem_toArray, List.getElem_cons_zero, List.getElem_cons_succ, List.setIfInBounds_toArray, List.set_cons_zero, List.set_cons_succ]
          refine wpAnyH_take (i := 13) (v := ?_) rfl (by kernel_rfl) (by kernel_rfl) (by kernel_rfl) (fun _ _ _ h => h) (Or.inl ⟨by rfl, ?ynf274⟩) (by assumption) ?qnf274
          case ynf274 => (intro wz hSw; (try dsimp only at hSw); go_simp <;> with_reducible rfl)
          try simp only [Act.put, List.getElem_toArray, List.getElem_cons_zero, List.getElem_cons_succ, List.setIfInBounds_toArray, List.set_cons_zero, List.set_cons_succ]
          refine wpAnyH_done (by kernel_rfl) ?_ _
          go_wp2
          exact HKEY.out _ _ _ _ _ _ _ HB.out F2.out F4.out F10.out F6.out F8.out D2_4 D2_10 D4_10
        exact AllReadyH.nil
      refine AllReadyH.cons rfl (fun K hK => ?bnf275) ?cnf275
      case bnf275 =>
        go_simp
        refine (HN.out _).mono ?_
        rintro e u275 ⟨rfl, hs, hb⟩
        obtain ⟨g8, hg⟩ : ∃ g, g = u252.heap.size := ⟨_, rfl⟩
        rw [← hg] at hs ⊢
        have F8 := Lib.hid (RF_.new HB.out.size hg hs)
        replace F6 := Lib.hid (F6.out.below hb)
        replace F10 := Lib.hid (F10.out.below hb)
        replace HB := Lib.hid (hbt HB.out hb)
        clear hb hg hs
        refine hK.out _ _ (True.intro) (fun hHeld275 => ?_)
        clear hK K
        try simp only [Act.put, List.getElem_toArray, List.getElem_cons_zero, List.getElem_cons_succ, List.setIfInBounds_toArray, List.set_cons_zero, List.set_cons_succ]
        refine wpAnyH_ready (rs := [2, 4]) (by kernel_rfl) (by simp) ?_
        refine AllReadyH.cons rfl (fun K hK => ?bnf276) ?cnf276
        case bnf276 =>
          go_simp
          obtain ⟨g2, hg⟩ : ∃ g, g = u275.heap.size := ⟨_, rfl⟩
          obtain ⟨u276, hu⟩ : ∃ X, X = u275.alloc (.cells (madeCells #[.int .i64 0] n) 3) := ⟨_, rfl⟩
          have hb : Below u275.heap.size u275 u276 := by rw [hu]; exact (Below.refl _ _).alloc (Nat.le_refl _) _
          have D2_10 : g2 ≠ g10 := by have := F10.out.lt; omega
          rw [← hg, ← hu]
          have F2 := Lib.hid (CF.new HB.out.size hg hu)
          replace F6 := Lib.hid (F6.out.below hb)
          replace F8 := Lib.hid (F8.out.below hb)
          replace F10 := Lib.hid (F10.out.below hb)
          replace HB := Lib.hid (hbt HB.out hb)
          clear hb hg hu
          refine hK.out _ _ (True.intro) (fun hHeld276 => ?_)
          clear hK K
          try simp only [Act.put, List.getElem_toArray, List.getElem_cons_zero, List.getElem_cons_succ, List.setIfInBounds_toArray, List.set_cons_zero, List.set_cons_succ]
          refine wpAnyH_ready (rs := [4]) (by kernel_rfl) (by simp) ?_
          refine AllReadyH.cons rfl (fun K hK => ?_) AllReadyH.nil
          go_simp
          obtain ⟨g4, hg⟩ : ∃ g, g = u276.heap.size := ⟨_, rfl⟩
          obtain ⟨u277, hu⟩ : ∃ X, X = u276.alloc (.cells (madeCells #[.int .i64 0] n) 3) := ⟨_, rfl⟩
          have hb : Below u276.heap.size u276 u277 := by rw [hu]; exact (Below.refl _ _).alloc (Nat.le_refl _) _
          have D2_4 : g2 ≠ g4 := by have := F2.out.lt; omega
          have D4_10 : g4 ≠ g10 := by have := F10.out.lt; omega
          rw [← hg, ← hu]
          have F4 := Lib.hid (CF.new HB.out.size hg hu)
          replace F2 := Lib.hid (F2.out.below hb)
          replace F6 := Lib.hid (F6.out.below hb)
          replace F8 := Lib.hid (F8.out.below hb)
          replace F10 := Lib.hid (F10.out.below hb)
          replace HB := Lib.hid (hbt HB.out hb)
          clear hb hg hu
          refine hK.out _ _ (True.intro) (fun hHeld277 => ?_)
          clear hK K
          try simp only [Act.put, List.getElem_toArray, List.getElem_cons_zero, List.getElem_cons_succ, List.setIfInBounds_toArray, List.set_cons_zero, List.set_cons_succ]
          refine wpAnyH_take (i := 11) (v := ?_) rfl (by kernel_rfl) (by kernel_rfl) (by kernel_rfl) (fun _ _ _ h => h) (Or.inl ⟨by rfl, ?ynf278⟩) (by assumption) ?qnf278
          case ynf278 => (intro wz hSw; (try dsimp only at hSw); go_simp <;> with_reducible rfl)
          try simp only [Act.put, List.getElem_toArray, List.getElem_cons_zero, List.getElem_cons_succ, List.setIfInBounds_toArray, List.set_cons_zero, List.set_cons_succ]
          refine wpAnyH_ready (rs := [12]) (by kernel_rfl) (by simp) ?_
          refine AllReadyH.cons rfl (fun K hK => ?_) AllReadyH.nil
          go_simp
          refine hK.out _ _ (True.intro) (fun hHeld279 => ?_)
          clear hK K
          try simp only [Act.put, List.getElem_toArray, List.getElem_cons_zero, List.getElem_cons_succ, List.setIfInBounds_toArray, List.set_cons_zero, List.set_cons_succ]
          refine wpAnyH_take (i := 13) (v := ?_) rfl (by kernel_rfl) (by kernel_rfl) (by kernel_rfl) (fun _ _ _ h => h) (Or.inl ⟨by rfl, ?ynf280⟩) (by assumption) ?qnf280
          case ynf280 => (intro wz hSw; (try dsimp only at hSw); go_simp <;> with_reducible rfl)
          try simp only [Act.put, List.getElem_toArray, List.getElem_cons_zero, List.getElem_cons_succ, List.setIfInBounds_toArray, List.set_cons_zero, List.set_cons_succ]
          refine wpAnyH_done (by kernel_rfl) ?_ _
          go_wp2
          exact HKEY.out _ _ _ _ _ _ _ HB.out F2.out F4.out F10.out F6.out F8.out D2_4 D2_10 D4_10
        refine AllReadyH.cons rfl (fun K hK => ?bnf281) ?cnf281
        case bnf281 =>
          go_simp
          obtain ⟨g4, hg⟩ : ∃ g, g = u275.heap.size := ⟨_, rfl⟩
          obtain ⟨u281, hu⟩ : ∃ X, X = u275.alloc (.cells (madeCells #[.int .i64 0] n) 3) := ⟨_, rfl⟩
          have hb : Below u275.heap.size u275 u281 := by rw [hu]; exact (Below.refl _ _).alloc (Nat.le_refl _) _
          have D4_10 : g4 ≠ g10 := by have := F10.out.lt; omega
          rw [← hg, ← hu]
          have F4 := Lib.hid (CF.new HB.out.size hg hu)
          replace F6 := Lib.hid (F6.out.below hb)
          replace F8 := Lib.hid (F8.out.below hb)
          replace F10 := Lib.hid (F10.out.below hb)
          replace HB := Lib.hid (hbt HB.out hb)
          clear hb hg hu
          refine hK.out _ _ (True.intro) (fun hHeld281 => ?_)
          clear hK K
          try simp only [Act.put, List.getElem_toArray, List.getElem_cons_zero, List.getElem_cons_succ, List.setIfInBounds_toArray, List.set_cons_zero, List.set_cons_succ]
          refine wpAnyH_ready (rs := [2]) (by kernel_rfl) (by simp) ?_
          refine AllReadyH.cons rfl (fun K hK => ?_) AllReadyH.nil
          go_simp
          obtain ⟨g2, hg⟩ : ∃ g, g = u281.heap.size := ⟨_, rfl⟩
          obtain ⟨u282, hu⟩ : ∃ X, X = u281.alloc (.cells (madeCells #[.int .i64 0] n) 3) := ⟨_, rfl⟩
          have hb : Below u281.heap.size u281 u282 := by rw [hu]; exact (Below.refl _ _).alloc (Nat.le_refl _) _
          have D2_4 : g2 ≠ g4 := by have := F4.out.lt; omega
          have D2_10 : g2 ≠ g10 := by have := F10.out.lt; omega
          rw [← hg, ← hu]
          have F2 := Lib.hid (CF.new HB.out.size hg hu)
          replace F4 := Lib.hid (F4.out.below hb)
          replace F6 := Lib.hid (F6.out.below hb)
          replace F8 := Lib.hid (F8.out.below hb)
          replace F10 := Lib.hid (F10.out.below hb)
          replace HB := Lib.hid (hbt HB.out hb)
          clear hb hg hu
          refine hK.out _ _ (True.intro) (fun hHeld282 => ?_)
          clear hK K
          try simp only [Act.put, List.getElem_toArray, List.getElem_cons_zero, List.getElem_cons_succ, List.setIfInBounds_toArray, List.set_cons_zero, List.set_cons_succ]
          refine wpAnyH_take (i := 11) (v := ?_) rfl (by kernel_rfl) (by kernel_rfl) (by kernel_rfl) (fun _ _ _ h => h) (Or.inl ⟨by rfl, ?ynf283⟩) (by assumption) ?qnf283
          case ynf283 => (intro wz hSw; (try dsimp only at hSw); go_simp <;> with_reducible rfl)
          try simp only [Act.put, List.getElem_toArray, List.getElem_cons_zero, List.getElem_cons_succ, List.setIfInBounds_toArray, List.set_cons_zero, List.set_cons_succ]
          refine wpAnyH_ready (rs := [12]) (by kernel_rfl) (by simp) ?_
          refine AllReadyH.cons rfl (fun K hK => ?_) AllReadyH.nil
          go_simp
          refine hK.out _ _ (True.intro) (fun hHeld284 => ?_)
          clear hK K
          try simp only [Act.put, List.getElem_toArray, List.getElem_cons_zero, List.getElem_cons_succ, List.setIfInBounds_toArray, List.set_cons_zero, List.set_cons_succ]
          refine wpAnyH_take (i := 13) (v := ?_) rfl (by kernel_rfl) (by kernel_rfl) (by kernel_rfl) (fun _ _ _ h => h) (Or.inl ⟨by rfl, ?ynf285⟩) (by assumption) ?qnf285
          case ynf285 => (intro wz hSw; (try dsimp only at hSw); go_simp <;> with_reducible rfl)
          try simp only [Act.put, List.getElem_toArray, List.getElem_cons_zero, List.getElem_cons_succ, List.setIfInBounds_toArray, List.set_cons_zero, List.set_cons_succ]
          refine wpAnyH_done (by kernel_rfl) ?_ _
          go_wp2
          exact HKEY.out _ _ _ _ _ _ _ HB.out F2.out F4.out F10.out F6.out F8.out D2_4 D2_10 D4_10
        exact AllReadyH.nil
      exact AllReadyH.nil
    exact AllReadyH.nil
  refine AllReadyH.cons rfl (fun K hK => ?bnf286) ?cnf286
  case bnf286 =>
    go_simp
    obtain ⟨g10, hg⟩ : ∃ g, g = U0.heap.size := ⟨_, rfl⟩
    obtain ⟨u286, hu⟩ : ∃ X, X = U0.alloc (.cells (madeCells #[.int .i64 0] n) 3) := ⟨_, rfl⟩
    have hb : Below U0.heap.size U0 u286 := by rw [hu]; exact (Below.refl _ _).alloc (Nat.le_refl _) _
    rw [← hg, ← hu]
    have F10 := Lib.hid (CF.new HB.out.size hg hu)
    replace HB := Lib.hid (hbt HB.out hb)
    clear hb hg hu
    refine hK.out _ _ (True.intro) (fun hHeld286 => ?_)
    clear hK K
    try simp only [Act.put, List.getElem_toArray, List.getElem_cons_zero, List.getElem_cons_succ, List.setIfInBounds_toArray, List.set_cons_zero, List.set_cons_succ]
    refine wpAnyH_ready (rs := [2, 4, 6]) (by kernel_rfl) (by simp) ?_
    refine AllReadyH.cons rfl (fun K hK => ?bnf287) ?cnf287
    case bnf287 =>
      go_simp
      obtain ⟨g2, hg⟩ : ∃ g, g = u286.heap.size := ⟨_, rfl⟩
      obtain ⟨u287, hu⟩ : ∃ X, X = u286.alloc (.cells (madeCells #[.int .i64 0] n) 3) := ⟨_, rfl⟩
      have hb : Below u286.heap.size u286 u287 := by rw [hu]; exact (Below.refl _ _).alloc (Nat.le_refl _) _
      have D2_10 : g2 ≠ g10 := by have := F10.out.lt; omega
      rw [← hg, ← hu]
      have F2 := Lib.hid (CF.new HB.out.size hg hu)
      replace F10 := Lib.hid (F10.out.below hb)
      replace HB := Lib.hid (hbt HB.out hb)
      clear hb hg hu
      refine hK.out _ _ (True.intro) (fun hHeld287 => ?_)
      clear hK K
      try simp only [Act.put, List.getElem_toArray, List.getElem_cons_zero, List.getElem_cons_succ, List.setIfInBounds_toArray, List.set_cons_zero, List.set_cons_succ]
      refine wpAnyH_ready (rs := [4, 6]) (by kernel_rfl) (by simp) ?_
      refine AllReadyH.cons rfl (fun K hK => ?bnf288) ?cnf288
      case bnf288 =>
        go_simp
        obtain ⟨g4, hg⟩ : ∃ g, g = u287.heap.size := ⟨_, rfl⟩
        obtain ⟨u288, hu⟩ : ∃ X, X = u287.alloc (.cells (madeCells #[.int .i64 0] n) 3) := ⟨_, rfl⟩
        have hb : Below u287.heap.size u287 u288 := by rw [hu]; exact (Below.refl _ _).alloc (Nat.le_refl _) _
        have D2_4 : g2 ≠ g4 := by have := F2.out.lt; omega
        have D4_10 : g4 ≠ g10 := by have := F10.out.lt; omega
        rw [← hg, ← hu]
        have F4 := Lib.hid (CF.new HB.out.size hg hu)
        replace F2 := Lib.hid (F2.out.below hb)
        replace F10 := Lib.hid (F10.out.below hb)
        replace HB := Lib.hid (hbt HB.out hb)
        clear hb hg hu
        refine hK.out _ _ (True.intro) (fun hHeld288 => ?_)
        clear hK K
        try simp only [Act.put, List.getElem_toArray, List.getElem_cons_zero, List.getElem_cons_succ, List.setIfInBounds_toArray, List.set_cons_zero, List.set_cons_succ]
        refine wpAnyH_ready (rs := [6]) (by kernel_rfl) (by simp) ?_
        refine AllReadyH.cons rfl (fun K hK => ?_) AllReadyH.nil
        go_simp
        refine (HS.out _).mono ?_
        rintro e u289 ⟨rfl, hs, hb⟩
        obtain ⟨g6, hg⟩ : ∃ g, g = u288.heap.size := ⟨_, rfl⟩
        rw [← hg] at hs ⊢
        have F6 := Lib.hid (SF.new HB.out.size hg hs)
        replace F2 := Lib.hid (F2.out.below hb)
        replace F4 := Lib.hid (F4.out.below hb)
        replace F10 := Lib.hid (F10.out.below hb)
        replace HB := Lib.hid (hbt HB.out hb)
        clear hb hg hs
        refine hK.out _ _ (True.intro) (fun hHeld289 => ?_)
        clear hK K
        try simp only [Act.put, List.getElem_toArray, List.getElem_cons_zero, List.getElem_cons_succ, List.setIfInBounds_toArray, List.set_cons_zero, List.set_cons_succ]
        refine wpAnyH_ready (rs := [8]) (by kernel_rfl) (by simp) ?_
        refine AllReadyH.cons rfl (fun K hK => ?_) AllReadyH.nil
        go_simp
        refine (HN.out _).mono ?_
        rintro e u290 ⟨rfl, hs, hb⟩
        obtain ⟨g8, hg⟩ : ∃ g, g = u289.heap.size := ⟨_, rfl⟩
        rw [← hg] at hs ⊢
        have F8 := Lib.hid (RF_.new HB.out.size hg hs)
        replace F2 := Lib.hid (F2.out.below hb)
        replace F4 := Lib.hid (F4.out.below hb)
        replace F6 := Lib.hid (F6.out.below hb)
        replace F10 := Lib.hid (F10.out.below hb)
        replace HB := Lib.hid (hbt HB.out hb)
        clear hb hg hs
        refine hK.out _ _ (True.intro) (fun hHeld290 => ?_)
        clear hK K
        try simp only [Act.put, List.getElem_toArray, List.getElem_cons_zero, List.getElem_cons_succ, List.setIfInBounds_toArray, List.set_cons_zero, List.set_cons_succ]
        refine wpAnyH_take (i := 11) (v := ?_) rfl (by kernel_rfl) (by kernel_rfl) (by kernel_rfl) (fun _ _ _ h => h) (Or.inl ⟨by rfl, ?ynf291⟩) (by assumption) ?qnf291
        case ynf291 => (intro wz hSw; (try dsimp only at hSw); go_simp <;> with_reducible rfl)
        try simp only [Act.put, List.getElem_toArray, List.getElem_cons_zero, List.getElem_cons_succ, List.setIfInBounds_toArray, List.set_cons_zero, List.set_cons_succ]
        refine wpAnyH_ready (rs := [12]) (by kernel_rfl) (by simp) ?_
        refine AllReadyH.cons rfl (fun K hK => ?_) AllReadyH.nil
        go_simp
        refine hK.out _ _ (True.intro) (fun hHeld292 => ?_)
        clear hK K
        try simp only [Act.put, List.getElem_toArray, List.getElem_cons_zero, List.getElem_cons_succ, List.setIfInBounds_toArray, List.set_cons_zero, List.set_cons_succ]
        refine wpAnyH_take (i := 13) (v := ?_) rfl (by kernel_rfl) (by kernel_rfl) (by kernel_rfl) (fun _ _ _ h => h) (Or.inl ⟨by rfl, ?ynf293⟩) (by assumption) ?qnf293
        case ynf293 => (intro wz hSw; (try dsimp only at hSw); go_simp <;> with_reducible rfl)
        try simp only [Act.put, List.getElem_toArray, List.getElem_cons_zero, List.getElem_cons_succ, List.setIfInBounds_toArray, List.set_cons_zero, List.set_cons_succ]
        refine wpAnyH_done (by kernel_rfl) ?_ _
        go_wp2
        exact HKEY.out _ _ _ _ _ _ _ HB.out F2.out F4.out F10.out F6.out F8.out D2_4 D2_10 D4_10
      refine AllReadyH.cons rfl (fun K hK => ?bnf294) ?cnf294
      case bnf294 =>
        go_simp
        refine (HS.out _).mono ?_
        rintro e u294 ⟨rfl, hs, hb⟩
        obtain ⟨g6, hg⟩ : ∃ g, g = u287.heap.size := ⟨_, rfl⟩
        rw [← hg] at hs ⊢
        have F6 := Lib.hid (SF.new HB.out.size hg hs)
        replace F2 := Lib.hid (F2.out.below hb)
        replace F10 := Lib.hid (F10.out.below hb)
        replace HB := Lib.hid (hbt HB.out hb)
        clear hb hg hs
        refine hK.out _ _ (True.intro) (fun hHeld294 => ?_)
        clear hK K
        try simp only [Act.put, List.getElem_toArray, List.getElem_cons_zero, List.getElem_cons_succ, List.setIfInBounds_toArray, List.set_cons_zero, List.set_cons_succ]
        refine wpAnyH_ready (rs := [4, 8]) (by kernel_rfl) (by simp) ?_
        refine AllReadyH.cons rfl (fun K hK => ?bnf295) ?cnf295
        case bnf295 =>
          go_simp
          obtain ⟨g4, hg⟩ : ∃ g, g = u294.heap.size := ⟨_, rfl⟩
          obtain ⟨u295, hu⟩ : ∃ X, X = u294.alloc (.cells (madeCells #[.int .i64 0] n) 3) := ⟨_, rfl⟩
          have hb : Below u294.heap.size u294 u295 := by rw [hu]; exact (Below.refl _ _).alloc (Nat.le_refl _) _
          have D2_4 : g2 ≠ g4 := by have := F2.out.lt; omega
          have D4_10 : g4 ≠ g10 := by have := F10.out.lt; omega
          rw [← hg, ← hu]
          have F4 := Lib.hid (CF.new HB.out.size hg hu)
          replace F2 := Lib.hid (F2.out.below hb)
          replace F6 := Lib.hid (F6.out.below hb)
          replace F10 := Lib.hid (F10.out.below hb)
          replace HB := Lib.hid (hbt HB.out hb)
          clear hb hg hu
          refine hK.out _ _ (True.intro) (fun hHeld295 => ?_)
          clear hK K
          try simp only [Act.put, List.getElem_toArray, List.getElem_cons_zero, List.getElem_cons_succ, List.setIfInBounds_toArray, List.set_cons_zero, List.set_cons_succ]
          refine wpAnyH_ready (rs := [8]) (by kernel_rfl) (by simp) ?_
          refine AllReadyH.cons rfl (fun K hK => ?_) AllReadyH.nil
          go_simp
          refine (HN.out _).mono ?_
          rintro e u296 ⟨rfl, hs, hb⟩
          obtain ⟨g8, hg⟩ : ∃ g, g = u295.heap.size := ⟨_, rfl⟩
          rw [← hg] at hs ⊢
          have F8 := Lib.hid (RF_.new HB.out.size hg hs)
          replace F2 := Lib.hid (F2.out.below hb)
          replace F4 := Lib.hid (F4.out.below hb)
          replace F6 := Lib.hid (F6.out.below hb)
          replace F10 := Lib.hid (F10.out.below hb)
          replace HB := Lib.hid (hbt HB.out hb)
          clear hb hg hs
          refine hK.out _ _ (True.intro) (fun hHeld296 => ?_)
          clear hK K
          try simp only [Act.put, List.getElem_toArray, List.getElem_cons_zero, List.getElem_cons_succ, List.setIfInBounds_toArray, List.set_cons_zero, List.set_cons_succ]
          refine wpAnyH_take (i := 11) (v := ?_) rfl (by kernel_rfl) (by kernel_rfl) (by kernel_rfl) (fun _ _ _ h => h) (Or.inl ⟨by rfl, ?ynf297⟩) (by assumption) ?qnf297
          case ynf297 => (intro wz hSw; (try dsimp only at hSw); go_simp <;> with_reducible rfl)
          try simp only [Act.put, List.getElem_toArray, List.getElem_cons_zero, List.getElem_cons_succ, List.setIfInBounds_toArray, List.set_cons_zero, List.set_cons_succ]
          refine wpAnyH_ready (rs := [12]) (by kernel_rfl) (by simp) ?_
          refine AllReadyH.cons rfl (fun K hK => ?_) AllReadyH.nil
          go_simp
          refine hK.out _ _ (True.intro) (fun hHeld298 => ?_)
          clear hK K
          try simp only [Act.put, List.getElem_toArray, List.getElem_cons_zero, List.getElem_cons_succ, List.setIfInBounds_toArray, List.set_cons_zero, List.set_cons_succ]
          refine wpAnyH_take (i := 13) (v := ?_) rfl (by kernel_rfl) (by kernel_rfl) (by kernel_rfl) (fun _ _ _ h => h) (Or.inl ⟨by rfl, ?ynf299⟩) (by assumption) ?qnf299
          case ynf299 => (intro wz hSw; (try dsimp only at hSw); go_simp <;> with_reducible rfl)
          try simp only [Act.put, List.getElem_toArray, List.getElem_cons_zero, List.getElem_cons_succ, List.setIfInBounds_toArray, List.set_cons_zero, List.set_cons_succ]
          refine wpAnyH_done (by kernel_rfl) ?_ _
          go_wp2
          exact HKEY.out _ _ _ _ _ _ _ HB.out F2.out F4.out F10.out F6.out F8.out D2_4 D2_10 D4_10
        refine AllReadyH.cons rfl (fun K hK => ?bnf300) ?cnf300
        case bnf300 =>
          go_simp
          refine (HN.out _).mono ?_
          rintro e u300 ⟨rfl, hs, hb⟩
          obtain ⟨g8, hg⟩ : ∃ g, g = u294.heap.size := ⟨_, rfl⟩
          rw [← hg] at hs ⊢
          have F8 := Lib.hid (RF_.new HB.out.size hg hs)
          replace F2 := Lib.hid (F2.out.below hb)
          replace F6 := Lib.hid (F6.out.below hb)
          replace F10 := Lib.hid (F10.out.below hb)
          replace HB := Lib.hid (hbt HB.out hb)
          clear hb hg hs
          refine hK.out _ _ (True.intro) (fun hHeld300 => ?_)
          clear hK K
          try simp only [Act.put, List.getElem_toArray, List.getElem_cons_zero, List.getElem_cons_succ, List.setIfInBounds_toArray, List.set_cons_zero, List.set_cons_succ]
          refine wpAnyH_ready (rs := [4]) (by kernel_rfl) (by simp) ?_
          refine AllReadyH.cons rfl (fun K hK => ?_) AllReadyH.nil
          go_simp
          obtain ⟨g4, hg⟩ : ∃ g, g = u300.heap.size := ⟨_, rfl⟩
          obtain ⟨u301, hu⟩ : ∃ X, X = u300.alloc (.cells (madeCells #[.int .i64 0] n) 3) := ⟨_, rfl⟩
          have hb : Below u300.heap.size u300 u301 := by rw [hu]; exact (Below.refl _ _).alloc (Nat.le_refl _) _
          have D2_4 : g2 ≠ g4 := by have := F2.out.lt; omega
          have D4_10 : g4 ≠ g10 := by have := F10.out.lt; omega
          rw [← hg, ← hu]
          have F4 := Lib.hid (CF.new HB.out.size hg hu)
          replace F2 := Lib.hid (F2.out.below hb)
          replace F6 := Lib.hid (F6.out.below hb)
          replace F8 := Lib.hid (F8.out.below hb)
          replace F10 := Lib.hid (F10.out.below hb)
          replace HB := Lib.hid (hbt HB.out hb)
          clear hb hg hu
          refine hK.out _ _ (True.intro) (fun hHeld301 => ?_)
          clear hK K
          try simp only [Act.put, List.getElem_toArray, List.getElem_cons_zero, List.getElem_cons_succ, List.setIfInBounds_toArray, List.set_cons_zero, List.set_cons_succ]
          refine wpAnyH_take (i := 11) (v := ?_) rfl (by kernel_rfl) (by kernel_rfl) (by kernel_rfl) (fun _ _ _ h => h) (Or.inl ⟨by rfl, ?ynf302⟩) (by assumption) ?qnf302
          case ynf302 => (intro wz hSw; (try dsimp only at hSw); go_simp <;> with_reducible rfl)
          try simp only [Act.put, List.getElem_toArray, List.getElem_cons_zero, List.getElem_cons_succ, List.setIfInBounds_toArray, List.set_cons_zero, List.set_cons_succ]
          refine wpAnyH_ready (rs := [12]) (by kernel_rfl) (by simp) ?_
          refine AllReadyH.cons rfl (fun K hK => ?_) AllReadyH.nil
          go_simp
          refine hK.out _ _ (True.intro) (fun hHeld303 => ?_)
          clear hK K
          try simp only [Act.put, List.getElem_toArray, List.getElem_cons_zero, List.getElem_cons_succ, List.setIfInBounds_toArray, List.set_cons_zero, List.set_cons_succ]
          refine wpAnyH_take (i := 13) (v := ?_) rfl (by kernel_rfl) (by kernel_rfl) (by kernel_rfl) (fun _ _ _ h => h) (Or.inl ⟨by rfl, ?ynf304⟩) (by assumption) ?qnf304
          case ynf304 => (intro wz hSw; (try dsimp only at hSw); go_simp <;> with_reducible rfl)
          try simp only [Act.put, List.getElem_toArray, List.getElem_cons_zero, List.getElem_cons_succ, List.setIfInBounds_toArray, List.set_cons_zero, List.set_cons_succ]
          refine wpAnyH_done (by kernel_rfl) ?_ _
          go_wp2
          exact HKEY.out _ _ _ _ _ _ _ HB.out F2.out F4.out F10.out F6.out F8.out D2_4 D2_10 D4_10
        exact AllReadyH.nil
      exact AllReadyH.nil
    refine AllReadyH.cons rfl (fun K hK => ?bnf305) ?cnf305
    case bnf305 =>
      go_simp
      obtain ⟨g4, hg⟩ : ∃ g, g = u286.heap.size := ⟨_, rfl⟩
      obtain ⟨u305, hu⟩ : ∃ X, X = u286.alloc (.cells (madeCells #[.int .i64 0] n) 3) := ⟨_, rfl⟩
      have hb : Below u286.heap.size u286 u305 := by rw [hu]; exact (Below.refl _ _).alloc (Nat.le_refl _) _
      have D4_10 : g4 ≠ g10 := by have := F10.out.lt; omega
      rw [← hg, ← hu]
      have F4 := Lib.hid (CF.new HB.out.size hg hu)
      replace F10 := Lib.hid (F10.out.below hb)
      replace HB := Lib.hid (hbt HB.out hb)
      clear hb hg hu
      refine hK.out _ _ (True.intro) (fun hHeld305 => ?_)
      clear hK K
      try simp only [Act.put, List.getElem_toArray, List.getElem_cons_zero, List.getElem_cons_succ, List.setIfInBounds_toArray, List.set_cons_zero, List.set_cons_succ]
      refine wpAnyH_ready (rs := [2, 6]) (by kernel_rfl) (by simp) ?_
      refine AllReadyH.cons rfl (fun K hK => ?bnf306) ?cnf306
      case bnf306 =>
        go_simp
        obtain ⟨g2, hg⟩ : ∃ g, g = u305.heap.size := ⟨_, rfl⟩
        obtain ⟨u306, hu⟩ : ∃ X, X = u305.alloc (.cells (madeCells #[.int .i64 0] n) 3) := ⟨_, rfl⟩
        have hb : Below u305.heap.size u305 u306 := by rw [hu]; exact (Below.refl _ _).alloc (Nat.le_refl _) _
        have D2_4 : g2 ≠ g4 := by have := F4.out.lt; omega
        have D2_10 : g2 ≠ g10 := by have := F10.out.lt; omega
        rw [← hg, ← hu]
        have F2 := Lib.hid (CF.new HB.out.size hg hu)
        replace F4 := Lib.hid (F4.out.below hb)
        replace F10 := Lib.hid (F10.out.below hb)
        replace HB := Lib.hid (hbt HB.out hb)
        clear hb hg hu
        refine hK.out _ _ (True.intro) (fun hHeld306 => ?_)
        clear hK K
        try simp only [Act.put, List.getElem_toArray, List.getElem_cons_zero, List.getElem_cons_succ, List.setIfInBounds_toArray, List.set_cons_zero, List.set_cons_succ]
        refine wpAnyH_ready (rs := [6]) (by kernel_rfl) (by simp) ?_
        refine AllReadyH.cons rfl (fun K hK => ?_) AllReadyH.nil
        go_simp
        refine (HS.out _).mono ?_
        rintro e u307 ⟨rfl, hs, hb⟩
        obtain ⟨g6, hg⟩ : ∃ g, g = u306.heap.size := ⟨_, rfl⟩
        rw [← hg] at hs ⊢
        have F6 := Lib.hid (SF.new HB.out.size hg hs)
        replace F2 := Lib.hid (F2.out.below hb)
        replace F4 := Lib.hid (F4.out.below hb)
        replace F10 := Lib.hid (F10.out.below hb)
        replace HB := Lib.hid (hbt HB.out hb)
        clear hb hg hs
        refine hK.out _ _ (True.intro) (fun hHeld307 => ?_)
        clear hK K
        try simp only [Act.put, List.getElem_toArray, List.getElem_cons_zero, List.getElem_cons_succ, List.setIfInBounds_toArray, List.set_cons_zero, List.set_cons_succ]
        refine wpAnyH_ready (rs := [8]) (by kernel_rfl) (by simp) ?_
        refine AllReadyH.cons rfl (fun K hK => ?_) AllReadyH.nil
        go_simp
        refine (HN.out _).mono ?_
        rintro e u308 ⟨rfl, hs, hb⟩
        obtain ⟨g8, hg⟩ : ∃ g, g = u307.heap.size := ⟨_, rfl⟩
        rw [← hg] at hs ⊢
        have F8 := Lib.hid (RF_.new HB.out.size hg hs)
        replace F2 := Lib.hid (F2.out.below hb)
        replace F4 := Lib.hid (F4.out.below hb)
        replace F6 := Lib.hid (F6.out.below hb)
        replace F10 := Lib.hid (F10.out.below hb)
        replace HB := Lib.hid (hbt HB.out hb)
        clear hb hg hs
        refine hK.out _ _ (True.intro) (fun hHeld308 => ?_)
        clear hK K
        try simp only [Act.put, List.getElem_toArray, List.getElem_cons_zero, List.getElem_cons_succ, List.setIfInBounds_toArray, List.set_cons_zero, List.set_cons_succ]
        refine wpAnyH_take (i := 11) (v := ?_) rfl (by kernel_rfl) (by kernel_rfl) (by kernel_rfl) (fun _ _ _ h => h) (Or.inl ⟨by rfl, ?ynf309⟩) (by assumption) ?qnf309
        case ynf309 => (intro wz hSw; (try dsimp only at hSw); go_simp <;> with_reducible rfl)
        try simp only [Act.put, List.getElem_toArray, List.getElem_cons_zero, List.getElem_cons_succ, List.setIfInBounds_toArray, List.set_cons_zero, List.set_cons_succ]
        refine wpAnyH_ready (rs := [12]) (by kernel_rfl) (by simp) ?_
        refine AllReadyH.cons rfl (fun K hK => ?_) AllReadyH.nil
        go_simp
        refine hK.out _ _ (True.intro) (fun hHeld310 => ?_)
        clear hK K
        try simp only [Act.put, List.getElem_toArray, List.getElem_cons_zero, List.getElem_cons_succ, List.setIfInBounds_toArray, List.set_cons_zero, List.set_cons_succ]
        refine wpAnyH_take (i := 13) (v := ?_) rfl (by kernel_rfl) (by kernel_rfl) (by kernel_rfl) (fun _ _ _ h => h) (Or.inl ⟨by rfl, ?ynf311⟩) (by assumption) ?qnf311
        case ynf311 => (intro wz hSw; (try dsimp only at hSw); go_simp <;> with_reducible rfl)
        try simp only [Act.put, List.getElem_toArray, List.getElem_cons_zero, List.getElem_cons_succ, List.setIfInBounds_toArray, List.set_cons_zero, List.set_cons_succ]
        refine wpAnyH_done (by kernel_rfl) ?_ _
        go_wp2
        exact HKEY.out _ _ _ _ _ _ _ HB.out F2.out F4.out F10.out F6.out F8.out D2_4 D2_10 D4_10
      refine AllReadyH.cons rfl (fun K hK => ?bnf312) ?cnf312
      case bnf312 =>
        go_simp
        refine (HS.out _).mono ?_
        rintro e u312 ⟨rfl, hs, hb⟩
        obtain ⟨g6, hg⟩ : ∃ g, g = u305.heap.size := ⟨_, rfl⟩
        rw [← hg] at hs ⊢
        have F6 := Lib.hid (SF.new HB.out.size hg hs)
        replace F4 := Lib.hid (F4.out.below hb)
        replace F10 := Lib.hid (F10.out.below hb)
        replace HB := Lib.hid (hbt HB.out hb)
        clear hb hg hs
        refine hK.out _ _ (True.intro) (fun hHeld312 => ?_)
        clear hK K
        try simp only [Act.put, List.getElem_toArray, List.getElem_cons_zero, List.getElem_cons_succ, List.setIfInBounds_toArray, List.set_cons_zero, List.set_cons_succ]
        refine wpAnyH_ready (rs := [2, 8]) (by kernel_rfl) (by simp) ?_
        refine AllReadyH.cons rfl (fun K hK => ?bnf313) ?cnf313
        case bnf313 =>
          go_simp
          obtain ⟨g2, hg⟩ : ∃ g, g = u312.heap.size := ⟨_, rfl⟩
          obtain ⟨u313, hu⟩ : ∃ X, X = u312.alloc (.cells (madeCells #[.int .i64 0] n) 3) := ⟨_, rfl⟩
          have hb : Below u312.heap.size u312 u313 := by rw [hu]; exact (Below.refl _ _).alloc (Nat.le_refl _) _
          have D2_4 : g2 ≠ g4 := by have := F4.out.lt; omega
          have D2_10 : g2 ≠ g10 := by have := F10.out.lt; omega
          rw [← hg, ← hu]
          have F2 := Lib.hid (CF.new HB.out.size hg hu)
          replace F4 := Lib.hid (F4.out.below hb)
          replace F6 := Lib.hid (F6.out.below hb)
          replace F10 := Lib.hid (F10.out.below hb)
          replace HB := Lib.hid (hbt HB.out hb)
          clear hb hg hu
          refine hK.out _ _ (True.intro) (fun hHeld313 => ?_)
          clear hK K
          try simp only [Act.put, List.getElem_toArray, List.getElem_cons_zero, List.getElem_cons_succ, List.setIfInBounds_toArray, List.set_cons_zero, List.set_cons_succ]
          refine wpAnyH_ready (rs := [8]) (by kernel_rfl) (by simp) ?_
          refine AllReadyH.cons rfl (fun K hK => ?_) AllReadyH.nil
          go_simp
          refine (HN.out _).mono ?_
          rintro e u314 ⟨rfl, hs, hb⟩
          obtain ⟨g8, hg⟩ : ∃ g, g = u313.heap.size := ⟨_, rfl⟩
          rw [← hg] at hs ⊢
          have F8 := Lib.hid (RF_.new HB.out.size hg hs)
          replace F2 := Lib.hid (F2.out.below hb)
          replace F4 := Lib.hid (F4.out.below hb)
          replace F6 := Lib.hid (F6.out.below hb)
          replace F10 := Lib.hid (F10.out.below hb)
          replace HB := Lib.hid (hbt HB.out hb)
          clear hb hg hs
          refine hK.out _ _ (True.intro) (fun hHeld314 => ?_)
          clear hK K
          try simp only [Act.put, List.getElem_toArray, List.getElem_cons_zero, List.getElem_cons_succ, List.setIfInBounds_toArray, List.set_cons_zero, List.set_cons_succ]
          refine wpAnyH_take (i := 11) (v := ?_) rfl (by kernel_rfl) (by kernel_rfl) (by kernel_rfl) (fun _ _ _ h => h) (Or.inl ⟨by rfl, ?ynf315⟩) (by assumption) ?qnf315
          case ynf315 => (intro wz hSw; (try dsimp only at hSw); go_simp <;> with_reducible rfl)
          try simp only [Act.put, List.getElem_toArray, List.getElem_cons_zero, List.getElem_cons_succ, List.setIfInBounds_toArray, List.set_cons_zero, List.set_cons_succ]
          refine wpAnyH_ready (rs := [12]) (by kernel_rfl) (by simp) ?_
          refine AllReadyH.cons rfl (fun K hK => ?_) AllReadyH.nil
          go_simp
          refine hK.out _ _ (True.intro) (fun hHeld316 => ?_)
          clear hK K
          try simp only [Act.put, List.getElem_toArray, List.getElem_cons_zero, List.getElem_cons_succ, List.setIfInBounds_toArray, List.set_cons_zero, List.set_cons_succ]
          refine wpAnyH_take (i := 13) (v := ?_) rfl (by kernel_rfl) (by kernel_rfl) (by kernel_rfl) (fun _ _ _ h => h) (Or.inl ⟨by rfl, ?ynf317⟩) (by assumption) ?qnf317
          case ynf317 => (intro wz hSw; (try dsimp only at hSw); go_simp <;> with_reducible rfl)
          try simp only [Act.put, List.getElem_toArray, List.getElem_cons_zero, List.getElem_cons_succ, List.setIfInBounds_toArray, List.set_cons_zero, List.set_cons_succ]
          refine wpAnyH_done (by kernel_rfl) ?_ _
          go_wp2
          exact HKEY.out _ _ _ _ _ _ _ HB.out F2.out F4.out F10.out F6.out F8.out D2_4 D2_10 D4_10
        refine AllReadyH.cons rfl (fun K hK => ?bnf318) ?cnf318
        case bnf318 =>
          go_simp
          refine (HN.out _).mono ?_
          rintro e u318 ⟨rfl, hs, hb⟩
          obtain ⟨g8, hg⟩ : ∃ g, g = u312.heap.size := ⟨_, rfl⟩
          rw [← hg] at hs ⊢
          have F8 := Lib.hid (RF_.new HB.out.size hg hs)
          replace F4 := Lib.hid (F4.out.below hb)
          replace F6 := Lib.hid (F6.out.below hb)
          replace F10 := Lib.hid (F10.out.below hb)
          replace HB := Lib.hid (hbt HB.out hb)
          clear hb hg hs
          refine hK.out _ _ (True.intro) (fun hHeld318 => ?_)
          clear hK K
          try simp only [Act.put, List.getElem_toArray, List.getElem_cons_zero, List.getElem_cons_succ, List.setIfInBounds_toArray, List.set_cons_zero, List.set_cons_succ]
          refine wpAnyH_ready (rs := [2]) (by kernel_rfl) (by simp) ?_
          refine AllReadyH.cons rfl (fun K hK => ?_) AllReadyH.nil
          go_simp
          obtain ⟨g2, hg⟩ : ∃ g, g = u318.heap.size := ⟨_, rfl⟩
          obtain ⟨u319, hu⟩ : ∃ X, X = u318.alloc (.cells (madeCells #[.int .i64 0] n) 3) := ⟨_, rfl⟩
          have hb : Below u318.heap.size u318 u319 := by rw [hu]; exact (Below.refl _ _).alloc (Nat.le_refl _) _
          have D2_4 : g2 ≠ g4 := by have := F4.out.lt; omega
          have D2_10 : g2 ≠ g10 := by have := F10.out.lt; omega
          rw [← hg, ← hu]
          have F2 := Lib.hid (CF.new HB.out.size hg hu)
          replace F4 := Lib.hid (F4.out.below hb)
          replace F6 := Lib.hid (F6.out.below hb)
          replace F8 := Lib.hid (F8.out.below hb)
          replace F10 := Lib.hid (F10.out.below hb)
          replace HB := Lib.hid (hbt HB.out hb)
          clear hb hg hu
          refine hK.out _ _ (True.intro) (fun hHeld319 => ?_)
          clear hK K
          try simp only [Act.put, List.getElem_toArray, List.getElem_cons_zero, List.getElem_cons_succ, List.setIfInBounds_toArray, List.set_cons_zero, List.set_cons_succ]
          refine wpAnyH_take (i := 11) (v := ?_) rfl (by kernel_rfl) (by kernel_rfl) (by kernel_rfl) (fun _ _ _ h => h) (Or.inl ⟨by rfl, ?ynf320⟩) (by assumption) ?qnf320
          case ynf320 => (intro wz hSw; (try dsimp only at hSw); go_simp <;> with_reducible rfl)
          try simp only [Act.put, List.getElem_toArray, List.getElem_cons_zero, List.getElem_cons_succ, List.setIfInBounds_toArray, List.set_cons_zero, List.set_cons_succ]
          refine wpAnyH_ready (rs := [12]) (by kernel_rfl) (by simp) ?_
          refine AllReadyH.cons rfl (fun K hK => ?_) AllReadyH.nil
          go_simp
          refine hK.out _ _ (True.intro) (fun hHeld321 => ?_)
          clear hK K
          try simp only [Act.put, List.getElem_toArray, List.getElem_cons_zero, List.getElem_cons_succ, List.setIfInBounds_toArray, List.set_cons_zero, List.set_cons_succ]
          refine wpAnyH_take (i := 13) (v := ?_) rfl (by kernel_rfl) (by kernel_rfl) (by kernel_rfl) (fun _ _ _ h => h) (Or.inl ⟨by rfl, ?ynf322⟩) (by assumption) ?qnf322
          case ynf322 => (intro wz hSw; (try dsimp only at hSw); go_simp <;> with_reducible rfl)
          try simp only [Act.put, List.getElem_toArray, List.getElem_cons_zero, List.getElem_cons_succ, List.setIfInBounds_toArray, List.set_cons_zero, List.set_cons_succ]
          refine wpAnyH_done (by kernel_rfl) ?_ _
          go_wp2
          exact HKEY.out _ _ _ _ _ _ _ HB.out F2.out F4.out F10.out F6.out F8.out D2_4 D2_10 D4_10
        exact AllReadyH.nil
      exact AllReadyH.nil
    refine AllReadyH.cons rfl (fun K hK => ?bnf323) ?cnf323
    case bnf323 =>
      go_simp
      refine (HS.out _).mono ?_
      rintro e u323 ⟨rfl, hs, hb⟩
      obtain ⟨g6, hg⟩ : ∃ g, g = u286.heap.size := ⟨_, rfl⟩
      rw [← hg] at hs ⊢
      have F6 := Lib.hid (SF.new HB.out.size hg hs)
      replace F10 := Lib.hid (F10.out.below hb)
      replace HB := Lib.hid (hbt HB.out hb)
      clear hb hg hs
      refine hK.out _ _ (True.intro) (fun hHeld323 => ?_)
      clear hK K
      try simp only [Act.put, List.getElem_toArray, List.getElem_cons_zero, List.getElem_cons_succ, List.setIfInBounds_toArray, List.set_cons_zero, List.set_cons_succ]
      refine wpAnyH_ready (rs := [2, 4, 8]) (by kernel_rfl) (by simp) ?_
      refine AllReadyH.cons rfl (fun K hK => ?bnf324) ?cnf324
      case bnf324 =>
        go_simp
        obtain ⟨g2, hg⟩ : ∃ g, g = u323.heap.size := ⟨_, rfl⟩
        obtain ⟨u324, hu⟩ : ∃ X, X = u323.alloc (.cells (madeCells #[.int .i64 0] n) 3) := ⟨_, rfl⟩
        have hb : Below u323.heap.size u323 u324 := by rw [hu]; exact (Below.refl _ _).alloc (Nat.le_refl _) _
        have D2_10 : g2 ≠ g10 := by have := F10.out.lt; omega
        rw [← hg, ← hu]
        have F2 := Lib.hid (CF.new HB.out.size hg hu)
        replace F6 := Lib.hid (F6.out.below hb)
        replace F10 := Lib.hid (F10.out.below hb)
        replace HB := Lib.hid (hbt HB.out hb)
        clear hb hg hu
        refine hK.out _ _ (True.intro) (fun hHeld324 => ?_)
        clear hK K
        try simp only [Act.put, List.getElem_toArray, List.getElem_cons_zero, List.getElem_cons_succ, List.setIfInBounds_toArray, List.set_cons_zero, List.set_cons_succ]
        refine wpAnyH_ready (rs := [4, 8]) (by kernel_rfl) (by simp) ?_
        refine AllReadyH.cons rfl (fun K hK => ?bnf325) ?cnf325
        case bnf325 =>
          go_simp
          obtain ⟨g4, hg⟩ : ∃ g, g = u324.heap.size := ⟨_, rfl⟩
          obtain ⟨u325, hu⟩ : ∃ X, X = u324.alloc (.cells (madeCells #[.int .i64 0] n) 3) := ⟨_, rfl⟩
          have hb : Below u324.heap.size u324 u325 := by rw [hu]; exact (Below.refl _ _).alloc (Nat.le_refl _) _
          have D2_4 : g2 ≠ g4 := by have := F2.out.lt; omega
          have D4_10 : g4 ≠ g10 := by have := F10.out.lt; omega
          rw [← hg, ← hu]
          have F4 := Lib.hid (CF.new HB.out.size hg hu)
          replace F2 := Lib.hid (F2.out.below hb)
          replace F6 := Lib.hid (F6.out.below hb)
          replace F10 := Lib.hid (F10.out.below hb)
          replace HB := Lib.hid (hbt HB.out hb)
          clear hb hg hu
          refine hK.out _ _ (True.intro) (fun hHeld325 => ?_)
          clear hK K
          try simp only [Act.put, List.getElem_toArray, List.getElem_cons_zero, List.getElem_cons_succ, List.setIfInBounds_toArray, List.set_cons_zero, List.set_cons_succ]
          refine wpAnyH_ready (rs := [8]) (by kernel_rfl) (by simp) ?_
          refine AllReadyH.cons rfl (fun K hK => ?_) AllReadyH.nil
          go_simp
          refine (HN.out _).mono ?_
          rintro e u326 ⟨rfl, hs, hb⟩
          obtain ⟨g8, hg⟩ : ∃ g, g = u325.heap.size := ⟨_, rfl⟩
          rw [← hg] at hs ⊢
          have F8 := Lib.hid (RF_.new HB.out.size hg hs)
          replace F2 := Lib.hid (F2.out.below hb)
          replace F4 := Lib.hid (F4.out.below hb)
          replace F6 := Lib.hid (F6.out.below hb)
          replace F10 := Lib.hid (F10.out.below hb)
          replace HB := Lib.hid (hbt HB.out hb)
          clear hb hg hs
          refine hK.out _ _ (True.intro) (fun hHeld326 => ?_)
          clear hK K
          try simp only [Act.put, List.getElem_toArray, List.getElem_cons_zero, List.getElem_cons_succ, List.setIfInBounds_toArray, List.set_cons_zero, List.set_cons_succ]
          refine wpAnyH_take (i := 11) (v := ?_) rfl (by kernel_rfl) (by kernel_rfl) (by kernel_rfl) (fun _ _ _ h => h) (Or.inl ⟨by rfl, ?ynf327⟩) (by assumption) ?qnf327
          case ynf327 => (intro wz hSw; (try dsimp only at hSw); go_simp <;> with_reducible rfl)
          try simp only [Act.put, List.getElem_toArray, List.getElem_cons_zero, List.getElem_cons_succ, List.setIfInBounds_toArray, List.set_cons_zero, List.set_cons_succ]
          refine wpAnyH_ready (rs := [12]) (by kernel_rfl) (by simp) ?_
          refine AllReadyH.cons rfl (fun K hK => ?_) AllReadyH.nil
          go_simp
          refine hK.out _ _ (True.intro) (fun hHeld328 => ?_)
          clear hK K
          try simp only [Act.put, List.getElem_toArray, List.getElem_cons_zero, List.getElem_cons_succ, List.setIfInBounds_toArray, List.set_cons_zero, List.set_cons_succ]
          refine wpAnyH_take (i := 13) (v := ?_) rfl (by kernel_rfl) (by kernel_rfl) (by kernel_rfl) (fun _ _ _ h => h) (Or.inl ⟨by rfl, ?ynf329⟩) (by assumption) ?qnf329
          case ynf329 => (intro wz hSw; (try dsimp only at hSw); go_simp <;> with_reducible rfl)
          try simp only [Act.put, List.getElem_toArray, List.getElem_cons_zero, List.getElem_cons_succ, List.setIfInBounds_toArray, List.set_cons_zero, List.set_cons_succ]
          refine wpAnyH_done (by kernel_rfl) ?_ _
          go_wp2
          exact HKEY.out _ _ _ _ _ _ _ HB.out F2.out F4.out F10.out F6.out F8.out D2_4 D2_10 D4_10
        refine AllReadyH.cons rfl (fun K hK => ?bnf330) ?cnf330
        case bnf330 =>
          go_simp
          refine (HN.out _).mono ?_
          rintro e u330 ⟨rfl, hs, hb⟩
          obtain ⟨g8, hg⟩ : ∃ g, g = u324.heap.size := ⟨_, rfl⟩
          rw [← hg] at hs ⊢
          have F8 := Lib.hid (RF_.new HB.out.size hg hs)
          replace F2 := Lib.hid (F2.out.below hb)
          replace F6 := Lib.hid (F6.out.below hb)
          replace F10 := Lib.hid (F10.out.below hb)
          replace HB := Lib.hid (hbt HB.out hb)
          clear hb hg hs
          refine hK.out _ _ (True.intro) (fun hHeld330 => ?_)
          clear hK K
          try simp only [Act.put, List.getElem_toArray, List.getElem_cons_zero, List.getElem_cons_succ, List.setIfInBounds_toArray, List.set_cons_zero, List.set_cons_succ]
          refine wpAnyH_ready (rs := [4]) (by kernel_rfl) (by simp) ?_
          refine AllReadyH.cons rfl (fun K hK => ?_) AllReadyH.nil
          go_simp
          obtain ⟨g4, hg⟩ : ∃ g, g = u330.heap.size := ⟨_, rfl⟩
          obtain ⟨u331, hu⟩ : ∃ X, X = u330.alloc (.cells (madeCells #[.int .i64 0] n) 3) := ⟨_, rfl⟩
          have hb : Below u330.heap.size u330 u331 := by rw [hu]; exact (Below.refl _ _).alloc (Nat.le_refl _) _
          have D2_4 : g2 ≠ g4 := by have := F2.out.lt; omega
          have D4_10 : g4 ≠ g10 := by have := F10.out.lt; omega
          rw [← hg, ← hu]
          have F4 := Lib.hid (CF.new HB.out.size hg hu)
          replace F2 := Lib.hid (F2.out.below hb)
          replace F6 := Lib.hid (F6.out.below hb)
          replace F8 := Lib.hid (F8.out.below hb)
          replace F10 := Lib.hid (F10.out.below hb)
          replace HB := Lib.hid (hbt HB.out hb)
          clear hb hg hu
          refine hK.out _ _ (True.intro) (fun hHeld331 => ?_)
          clear hK K
          try simp only [Act.put, List.getElem_toArray, List.getElem_cons_zero, List.getElem_cons_succ, List.setIfInBounds_toArray, List.set_cons_zero, List.set_cons_succ]
          refine wpAnyH_take (i := 11) (v := ?_) rfl (by kernel_rfl) (by kernel_rfl) (by kernel_rfl) (fun _ _ _ h => h) (Or.inl ⟨by rfl, ?ynf332⟩) (by assumption) ?qnf332
          case ynf332 => (intro wz hSw; (try dsimp only at hSw); go_simp <;> with_reducible rfl)
          try simp only [Act.put, List.getElem_toArray, List.getElem_cons_zero, List.getElem_cons_succ, List.setIfInBounds_toArray, List.set_cons_zero, List.set_cons_succ]
          refine wpAnyH_ready (rs := [12]) (by kernel_rfl) (by simp) ?_
          refine AllReadyH.cons rfl (fun K hK => ?_) AllReadyH.nil
          go_simp
          refine hK.out _ _ (True.intro) (fun hHeld333 => ?_)
          clear hK K
          try simp only [Act.put, List.getElem_toArray, List.getElem_cons_zero, List.getElem_cons_succ, List.setIfInBounds_toArray, List.set_cons_zero, List.set_cons_succ]
          refine wpAnyH_take (i := 13) (v := ?_) rfl (by kernel_rfl) (by kernel_rfl) (by kernel_rfl) (fun _ _ _ h => h) (Or.inl ⟨by rfl, ?ynf334⟩) (by assumption) ?qnf334
          case ynf334 => (intro wz hSw; (try dsimp only at hSw); go_simp <;> with_reducible rfl)
          try simp only [Act.put, List.getElem_toArray, List.getElem_cons_zero, List.getElem_cons_succ, List.setIfInBounds_toArray, List.set_cons_zero, List.set_cons_succ]
          refine wpAnyH_done (by kernel_rfl) ?_ _
          go_wp2
          exact HKEY.out _ _ _ _ _ _ _ HB.out F2.out F4.out F10.out F6.out F8.out D2_4 D2_10 D4_10
        exact AllReadyH.nil
      refine AllReadyH.cons rfl (fun K hK => ?bnf335) ?cnf335
      case bnf335 =>
        go_simp
        obtain ⟨g4, hg⟩ : ∃ g, g = u323.heap.size := ⟨_, rfl⟩
        obtain ⟨u335, hu⟩ : ∃ X, X = u323.alloc (.cells (madeCells #[.int .i64 0] n) 3) := ⟨_, rfl⟩
        have hb : Below u323.heap.size u323 u335 := by rw [hu]; exact (Below.refl _ _).alloc (Nat.le_refl _) _
        have D4_10 : g4 ≠ g10 := by have := F10.out.lt; omega
        rw [← hg, ← hu]
        have F4 := Lib.hid (CF.new HB.out.size hg hu)
        replace F6 := Lib.hid (F6.out.below hb)
        replace F10 := Lib.hid (F10.out.below hb)
        replace HB := Lib.hid (hbt HB.out hb)
        clear hb hg hu
        refine hK.out _ _ (True.intro) (fun hHeld335 => ?_)
        clear hK K
        try simp only [Act.put, List.getElem_toArray, List.getElem_cons_zero, List.getElem_cons_succ, List.setIfInBounds_toArray, List.set_cons_zero, List.set_cons_succ]
        refine wpAnyH_ready (rs := [2, 8]) (by kernel_rfl) (by simp) ?_
        refine AllReadyH.cons rfl (fun K hK => ?bnf336) ?cnf336
        case bnf336 =>
          go_simp
          obtain ⟨g2, hg⟩ : ∃ g, g = u335.heap.size := ⟨_, rfl⟩
          obtain ⟨u336, hu⟩ : ∃ X, X = u335.alloc (.cells (madeCells #[.int .i64 0] n) 3) := ⟨_, rfl⟩
          have hb : Below u335.heap.size u335 u336 := by rw [hu]; exact (Below.refl _ _).alloc (Nat.le_refl _) _
          have D2_4 : g2 ≠ g4 := by have := F4.out.lt; omega
          have D2_10 : g2 ≠ g10 := by have := F10.out.lt; omega
          rw [← hg, ← hu]
          have F2 := Lib.hid (CF.new HB.out.size hg hu)
          replace F4 := Lib.hid (F4.out.below hb)
          replace F6 := Lib.hid (F6.out.below hb)
          replace F10 := Lib.hid (F10.out.below hb)
          replace HB := Lib.hid (hbt HB.out hb)
          clear hb hg hu
          refine hK.out _ _ (True.intro) (fun hHeld336 => ?_)
          clear hK K
          try simp only [Act.put, List.getElem_toArray, List.getElem_cons_zero, List.getElem_cons_succ, List.setIfInBounds_toArray, List.set_cons_zero, List.set_cons_succ]
          refine wpAnyH_ready (rs := [8]) (by kernel_rfl) (by simp) ?_
          refine AllReadyH.cons rfl (fun K hK => ?_) AllReadyH.nil
          go_simp
          refine (HN.out _).mono ?_
          rintro e u337 ⟨rfl, hs, hb⟩
          obtain ⟨g8, hg⟩ : ∃ g, g = u336.heap.size := ⟨_, rfl⟩
          rw [← hg] at hs ⊢
          have F8 := Lib.hid (RF_.new HB.out.size hg hs)
          replace F2 := Lib.hid (F2.out.below hb)
          replace F4 := Lib.hid (F4.out.below hb)
          replace F6 := Lib.hid (F6.out.below hb)
          replace F10 := Lib.hid (F10.out.below hb)
          replace HB := Lib.hid (hbt HB.out hb)
          clear hb hg hs
          refine hK.out _ _ (True.intro) (fun hHeld337 => ?_)
          clear hK K
          try simp only [Act.put, List.getElem_toArray, List.getElem_cons_zero, List.getElem_cons_succ, List.setIfInBounds_toArray, List.set_cons_zero, List.set_cons_succ]
          refine wpAnyH_take (i := 11) (v := ?_) rfl (by kernel_rfl) (by kernel_rfl) (by kernel_rfl) (fun _ _ _ h => h) (Or.inl ⟨by rfl, ?ynf338⟩) (by assumption) ?qnf338
          case ynf338 => (intro wz hSw; (try dsimp only at hSw); go_simp <;> with_reducible rfl)
          try simp only [Act.put, List.getElem_toArray, List.getElem_cons_zero, List.getElem_cons_succ, List.setIfInBounds_toArray, List.set_cons_zero, List.set_cons_succ]
          refine wpAnyH_ready (rs := [12]) (by kernel_rfl) (by simp) ?_
          refine AllReadyH.cons rfl (fun K hK => ?_) AllReadyH.nil
          go_simp
          refine hK.out _ _ (True.intro) (fun hHeld339 => ?_)
          clear hK K
          try simp only [Act.put, List.getElem_toArray, List.getElem_cons_zero, List.getElem_cons_succ, List.setIfInBounds_toArray, List.set_cons_zero, List.set_cons_succ]
          refine wpAnyH_take (i := 13) (v := ?_) rfl (by kernel_rfl) (by kernel_rfl) (by kernel_rfl) (fun _ _ _ h => h) (Or.inl ⟨by rfl, ?ynf340⟩) (by assumption) ?qnf340
          case ynf340 => (intro wz hSw; (try dsimp only at hSw); go_simp <;> with_reducible rfl)
          try simp only [Act.put, List.getElem_toArray, List.getElem_cons_zero, List.getElem_cons_succ, List.setIfInBounds_toArray, List.set_cons_zero, List.set_cons_succ]
          refine wpAnyH_done (by kernel_rfl) ?_ _
          go_wp2
          exact HKEY.out _ _ _ _ _ _ _ HB.out F2.out F4.out F10.out F6.out F8.out D2_4 D2_10 D4_10
        refine AllReadyH.cons rfl (fun K hK => ?bnf341) ?cnf341
        case bnf341 =>
          go_simp
          refine (HN.out _).mono ?_
          rintro e u341 ⟨rfl, hs, hb⟩
          obtain ⟨g8, hg⟩ : ∃ g, g = u335.heap.size := ⟨_, rfl⟩
          rw [← hg] at hs ⊢
          have F8 := Lib.hid (RF_.new HB.out.size hg hs)
          replace F4 := Lib.hid (F4.out.below hb)
          replace F6 := Lib.hid (F6.out.below hb)
          replace F10 := Lib.hid (F10.out.below hb)
          replace HB := Lib.hid (hbt HB.out hb)
          clear hb hg hs
          refine hK.out _ _ (True.intro) (fun hHeld341 => ?_)
          clear hK K
          try simp only [Act.put, List.getElem_toArray, List.getElem_cons_zero, List.getElem_cons_succ, List.setIfInBounds_toArray, List.set_cons_zero, List.set_cons_succ]
          refine wpAnyH_ready (rs := [2]) (by kernel_rfl) (by simp) ?_
          refine AllReadyH.cons rfl (fun K hK => ?_) AllReadyH.nil
          go_simp
          obtain ⟨g2, hg⟩ : ∃ g, g = u341.heap.size := ⟨_, rfl⟩
          obtain ⟨u342, hu⟩ : ∃ X, X = u341.alloc (.cells (madeCells #[.int .i64 0] n) 3) := ⟨_, rfl⟩
          have hb : Below u341.heap.size u341 u342 := by rw [hu]; exact (Below.refl _ _).alloc (Nat.le_refl _) _
          have D2_4 : g2 ≠ g4 := by have := F4.out.lt; omega
          have D2_10 : g2 ≠ g10 := by have := F10.out.lt; omega
          rw [← hg, ← hu]
          have F2 := Lib.hid (CF.new HB.out.size hg hu)
          replace F4 := Lib.hid (F4.out.below hb)
          replace F6 := Lib.hid (F6.out.below hb)
          replace F8 := Lib.hid (F8.out.below hb)
          replace F10 := Lib.hid (F10.out.below hb)
          replace HB := Lib.hid (hbt HB.out hb)
          clear hb hg hu
          refine hK.out _ _ (True.intro) (fun hHeld342 => ?_)
          clear hK K
          try simp only [Act.put, List.getElem_toArray, List.getElem_cons_zero, List.getElem_cons_succ, List.setIfInBounds_toArray, List.set_cons_zero, List.set_cons_succ]
          refine wpAnyH_take (i := 11) (v := ?_) rfl (by kernel_rfl) (by kernel_rfl) (by kernel_rfl) (fun _ _ _ h => h) (Or.inl ⟨by rfl, ?ynf343⟩) (by assumption) ?qnf343
          case ynf343 => (intro wz hSw; (try dsimp only at hSw); go_simp <;> with_reducible rfl)
          try simp only [Act.put, List.getElem_toArray, List.getElem_cons_zero, List.getElem_cons_succ, List.setIfInBounds_toArray, List.set_cons_zero, List.set_cons_succ]
          refine wpAnyH_ready (rs := [12]) (by kernel_rfl) (by simp) ?_
          refine AllReadyH.cons rfl (fun K hK => ?_) AllReadyH.nil
          go_simp
          refine hK.out _ _ (True.intro) (fun hHeld344 => ?_)
          clear hK K
          try simp only [Act.put, List.getElem_toArray, List.getElem_cons_zero, List.getElem_cons_succ, List.setIfInBounds_toArray, List.set_cons_zero, List.set_cons_succ]
          refine wpAnyH_take (i := 13) (v := ?_) rfl (by kernel_rfl) (by kernel_rfl) (by kernel_rfl) (fun _ _ _ h => h) (Or.inl ⟨by rfl, ?ynf345⟩) (by assumption) ?qnf345
          case ynf345 => (intro wz hSw; (try dsimp only at hSw); go_simp <;> with_reducible rfl)
          try simp only [Act.put, List.getElem_toArray, List.getElem_cons_zero, List.getElem_cons_succ, List.setIfInBounds_toArray, List.set_cons_zero, List.set_cons_succ]
          refine wpAnyH_done (by kernel_rfl) ?_ _
          go_wp2
          exact HKEY.out _ _ _ _ _ _ _ HB.out F2.out F4.out F10.out F6.out F8.out D2_4 D2_10 D4_10
        exact AllReadyH.nil
      refine AllReadyH.cons rfl (fun K hK => ?bnf346) ?cnf346
      case bnf346 =>
        go_simp
        refine (HN.out _).mono ?_
        rintro e u346 ⟨rfl, hs, hb⟩
        obtain ⟨g8, hg⟩ : ∃ g, g = u323.heap.size := ⟨_, rfl⟩
        rw [← hg] at hs ⊢
        have F8 := Lib.hid (RF_.new HB.out.size hg hs)
        replace F6 := Lib.hid (F6.out.below hb)
        replace F10 := Lib.hid (F10.out.below hb)
        replace HB := Lib.hid (hbt HB.out hb)
        clear hb hg hs
        refine hK.out _ _ (True.intro) (fun hHeld346 => ?_)
        clear hK K
        try simp only [Act.put, List.getElem_toArray, List.getElem_cons_zero, List.getElem_cons_succ, List.setIfInBounds_toArray, List.set_cons_zero, List.set_cons_succ]
        refine wpAnyH_ready (rs := [2, 4]) (by kernel_rfl) (by simp) ?_
        refine AllReadyH.cons rfl (fun K hK => ?bnf347) ?cnf347
        case bnf347 =>
          go_simp
          obtain ⟨g2, hg⟩ : ∃ g, g = u346.heap.size := ⟨_, rfl⟩
          obtain ⟨u347, hu⟩ : ∃ X, X = u346.alloc (.cells (madeCells #[.int .i64 0] n) 3) := ⟨_, rfl⟩
          have hb : Below u346.heap.size u346 u347 := by rw [hu]; exact (Below.refl _ _).alloc (Nat.le_refl _) _
          have D2_10 : g2 ≠ g10 := by have := F10.out.lt; omega
          rw [← hg, ← hu]
          have F2 := Lib.hid (CF.new HB.out.size hg hu)
          replace F6 := Lib.hid (F6.out.below hb)
          replace F8 := Lib.hid (F8.out.below hb)
          replace F10 := Lib.hid (F10.out.below hb)
          replace HB := Lib.hid (hbt HB.out hb)
          clear hb hg hu
          refine hK.out _ _ (True.intro) (fun hHeld347 => ?_)
          clear hK K
          try simp only [Act.put, List.getElem_toArray, List.getElem_cons_zero, List.getElem_cons_succ, List.setIfInBounds_toArray, List.set_cons_zero, List.set_cons_succ]
          refine wpAnyH_ready (rs := [4]) (by kernel_rfl) (by simp) ?_
          refine AllReadyH.cons rfl (fun K hK => ?_) AllReadyH.nil
          go_simp
          obtain ⟨g4, hg⟩ : ∃ g, g = u347.heap.size := ⟨_, rfl⟩
          obtain ⟨u348, hu⟩ : ∃ X, X = u347.alloc (.cells (madeCells #[.int .i64 0] n) 3) := ⟨_, rfl⟩
          have hb : Below u347.heap.size u347 u348 := by rw [hu]; exact (Below.refl _ _).alloc (Nat.le_refl _) _
          have D2_4 : g2 ≠ g4 := by have := F2.out.lt; omega
          have D4_10 : g4 ≠ g10 := by have := F10.out.lt; omega
          rw [← hg, ← hu]
          have F4 := Lib.hid (CF.new HB.out.size hg hu)
          replace F2 := Lib.hid (F2.out.below hb)
          replace F6 := Lib.hid (F6.out.below hb)
          replace F8 := Lib.hid (F8.out.below hb)
          replace F10 := Lib.hid (F10.out.below hb)
          replace HB := Lib.hid (hbt HB.out hb)
          clear hb hg hu
          refine hK.out _ _ (True.intro) (fun hHeld348 => ?_)
          clear hK K
          try simp only [Act.put, List.getElem_toArray, List.getElem_cons_zero, List.getElem_cons_succ, List.setIfInBounds_toArray, List.set_cons_zero, List.set_cons_succ]
          refine wpAnyH_take (i := 11) (v := ?_) rfl (by kernel_rfl) (by kernel_rfl) (by kernel_rfl) (fun _ _ _ h => h) (Or.inl ⟨by rfl, ?ynf349⟩) (by assumption) ?qnf349
          case ynf349 => (intro wz hSw; (try dsimp only at hSw); go_simp <;> with_reducible rfl)
          try simp only [Act.put, List.getElem_toArray, List.getElem_cons_zero, List.getElem_cons_succ, List.setIfInBounds_toArray, List.set_cons_zero, List.set_cons_succ]
          refine wpAnyH_ready (rs := [12]) (by kernel_rfl) (by simp) ?_
          refine AllReadyH.cons rfl (fun K hK => ?_) AllReadyH.nil
          go_simp
          refine hK.out _ _ (True.intro) (fun hHeld350 => ?_)
          clear hK K
          try simp only [Act.put, List.getElem_toArray, List.getElem_cons_zero, List.getElem_cons_succ, List.setIfInBounds_toArray, List.set_cons_zero, List.set_cons_succ]
          refine wpAnyH_take (i := 13) (v := ?_) rfl (by kernel_rfl) (by kernel_rfl) (by kernel_rfl) (fun _ _ _ h => h) (Or.inl ⟨by rfl, ?ynf351⟩) (by assumption) ?qnf351
          case ynf351 => (intro wz hSw; (try dsimp only at hSw); go_simp <;> with_reducible rfl)
          try simp only [Act.put, List.getElem_toArray, List.getElem_cons_zero, List.getElem_cons_succ, List.setIfInBounds_toArray, List.set_cons_zero, List.set_cons_succ]
          refine wpAnyH_done (by kernel_rfl) ?_ _
          go_wp2
          exact HKEY.out _ _ _ _ _ _ _ HB.out F2.out F4.out F10.out F6.out F8.out D2_4 D2_10 D4_10
        refine AllReadyH.cons rfl (fun K hK => ?bnf352) ?cnf352
        case bnf352 =>
          go_simp
          obtain ⟨g4, hg⟩ : ∃ g, g = u346.heap.size := ⟨_, rfl⟩
          obtain ⟨u352, hu⟩ : ∃ X, X = u346.alloc (.cells (madeCells #[.int .i64 0] n) 3) := ⟨_, rfl⟩
          have hb : Below u346.heap.size u346 u352 := by rw [hu]; exact (Below.refl _ _).alloc (Nat.le_refl _) _
          have D4_10 : g4 ≠ g10 := by have := F10.out.lt; omega
          rw [← hg, ← hu]
          have F4 := Lib.hid (CF.new HB.out.size hg hu)
          replace F6 := Lib.hid (F6.out.below hb)
          replace F8 := Lib.hid (F8.out.below hb)
          replace F10 := Lib.hid (F10.out.below hb)
          replace HB := Lib.hid (hbt HB.out hb)
          clear hb hg hu
          refine hK.out _ _ (True.intro) (fun hHeld352 => ?_)
          clear hK K
          try simp only [Act.put, List.getElem_toArray, List.getElem_cons_zero, List.getElem_cons_succ, List.setIfInBounds_toArray, List.set_cons_zero, List.set_cons_succ]
          refine wpAnyH_ready (rs := [2]) (by kernel_rfl) (by simp) ?_
          refine AllReadyH.cons rfl (fun K hK => ?_) AllReadyH.nil
          go_simp
          obtain ⟨g2, hg⟩ : ∃ g, g = u352.heap.size := ⟨_, rfl⟩
          obtain ⟨u353, hu⟩ : ∃ X, X = u352.alloc (.cells (madeCells #[.int .i64 0] n) 3) := ⟨_, rfl⟩
          have hb : Below u352.heap.size u352 u353 := by rw [hu]; exact (Below.refl _ _).alloc (Nat.le_refl _) _
          have D2_4 : g2 ≠ g4 := by have := F4.out.lt; omega
          have D2_10 : g2 ≠ g10 := by have := F10.out.lt; omega
          rw [← hg, ← hu]
          have F2 := Lib.hid (CF.new HB.out.size hg hu)
          replace F4 := Lib.hid (F4.out.below hb)
          replace F6 := Lib.hid (F6.out.below hb)
          replace F8 := Lib.hid (F8.out.below hb)
          replace F10 := Lib.hid (F10.out.below hb)
          replace HB := Lib.hid (hbt HB.out hb)
          clear hb hg hu
          refine hK.out _ _ (True.intro) (fun hHeld353 => ?_)
          clear hK K
          try simp only [Act.put, List.getElem_toArray, List.getElem_cons_zero, List.getElem_cons_succ, List.setIfInBounds_toArray, List.set_cons_zero, List.set_cons_succ]
          refine wpAnyH_take (i := 11) (v := ?_) rfl (by kernel_rfl) (by kernel_rfl) (by kernel_rfl) (fun _ _ _ h => h) (Or.inl ⟨by rfl, ?ynf354⟩) (by assumption) ?qnf354
          case ynf354 => (intro wz hSw; (try dsimp only at hSw); go_simp <;> with_reducible rfl)
          try simp only [Act.put, List.getElem_toArray, List.getElem_cons_zero, List.getElem_cons_succ, List.setIfInBounds_toArray, List.set_cons_zero, List.set_cons_succ]
          refine wpAnyH_ready (rs := [12]) (by kernel_rfl) (by simp) ?_
          refine AllReadyH.cons rfl (fun K hK => ?_) AllReadyH.nil
          go_simp
          refine hK.out _ _ (True.intro) (fun hHeld355 => ?_)
          clear hK K
          try simp only [Act.put, List.getElem_toArray, List.getElem_cons_zero, List.getElem_cons_succ, List.setIfInBounds_toArray, List.set_cons_zero, List.set_cons_succ]
          refine wpAnyH_take (i := 13) (v := ?_) rfl (by kernel_rfl) (by kernel_rfl) (by kernel_rfl) (fun _ _ _ h => h) (Or.inl ⟨by rfl, ?ynf356⟩) (by assumption) ?qnf356
          case ynf356 => (intro wz hSw; (try dsimp only at hSw); go_simp <;> with_reducible rfl)
          try simp only [Act.put, List.getElem_toArray, List.getElem_cons_zero, List.getElem_cons_succ, List.setIfInBounds_toArray, List.set_cons_zero, List.set_cons_succ]
          refine wpAnyH_done (by kernel_rfl) ?_ _
          go_wp2
          exact HKEY.out _ _ _ _ _ _ _ HB.out F2.out F4.out F10.out F6.out F8.out D2_4 D2_10 D4_10
        exact AllReadyH.nil
      exact AllReadyH.nil
    exact AllReadyH.nil
  exact AllReadyH.nil
end Go.Proofs.YtimgdkafennohaaGreatDoor.Sc
