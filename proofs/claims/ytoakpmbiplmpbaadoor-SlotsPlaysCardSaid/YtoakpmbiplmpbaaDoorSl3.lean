/-
  Contracts of slots: what is taken, freed. Not a statement of the seat.
-/
import Derived.Test.YtoakpmbiplmpbaaDoorSl2
import Derived.Test.YtoakpmbiplmpbaaDoorFrame
namespace Go.Proofs.YtoakpmbiplmpbaaDoor.Sl
open Go.ChangeShapes Go.WideShapes Go.ChangeAt Go.RowKit Go.Maps Base Bits Mp F
variable {w : World} {b mb ib tb tg : Nat} {l : List Int}
/-- The blocks that a change turns. -/
def SF (mb ib tg g : Nat) : Prop := g = mb ∨ g = ib ∨ g = tg
theorem i32s_set (l : List Int) (k : Nat) (x : Int) : (i32s l).setIfInBounds k (.int .i32 x) = i32s (l.set k x) := by
  unfold i32s
  apply Array.ext_getElem?
  intro j
  simp only [Array.getElem?_setIfInBounds, List.getElem?_toArray, List.getElem?_map, List.getElem?_set, List.size_toArray, List.length_map]
  by_cases h : k = j
  · subst h
    by_cases h2 : k < l.length <;> simp [h2]
  · simp [h]
/-- The blocks are unlike ones. -/
theorem SlAt.ne_ (h : SlAt w b mb ib tb tg l) : b ≠ mb ∧ b ≠ ib ∧ b ≠ tb ∧ b ≠ tg ∧ mb ≠ ib ∧ mb ≠ tb ∧ mb ≠ tg ∧ ib ≠ tb ∧ ib ≠ tg ∧ tb ≠ tg := by
  obtain ⟨h1, ⟨D, ⟨es, ck, hm, _⟩, _⟩, h3, h4, _⟩ := h
  refine ⟨fun e => ?_, fun e => ?_, fun e => ?_, fun e => ?_, fun e => ?_, fun e => ?_, fun e => ?_, fun e => ?_, fun e => ?_, h4.ne_⟩
  · rw [e, hm] at h1; simp [slotsB] at h1
  · rw [e, h3] at h1; simp [slotsB] at h1
  · rw [e, h4.1] at h1; simp [slotsB] at h1
  · rw [e, h4.2.1] at h1; simp [slotsB] at h1
  · rw [e, h3] at hm; simp at hm
  · rw [e, h4.1] at hm; simp at hm
  · rw [e, h4.2.1] at hm; simp at hm
  · rw [e, h4.1] at h3; simp at h3
  · rw [e, h4.2.1] at h3; simp at h3
/-- What a change of slots leaves. -/
def ChP (b mb ib tb tg : Nat) (l' : List Int) (v : Value) (w : World) (e : Ending) (w' : World) : Prop := e = .returned v ∧ SlAt w' b mb ib tb tg l' ∧ Fr (SF mb ib tg) w w'
theorem SlAt.put {w0 w1 w2 : World} {k : Nat} {x : Int} {on : Bool} (h : SlAt w0 b mb ib tb tg l) (hk : k < l.length) (hm : MZ Tryd.prog 21 21 .i32 k32 w1 mb (cntL (l.set k x)) (slotF (l.set k x))) (hg : w0.grownBy w1 (some mb))
    (hon : on = decide (x ≠ 0)) (hr : RowAt w2 tb tg l.length (setV l.length (takenV l) (k : Int) on)) (hg2 : (w1.setCell ⟨ib, k, none⟩ (.int .i32 x)).grownBy w2 (some tg)) (hgd : GoodI (l.set k x)) : SlAt w2 b mb ib tb tg (l.set k x) ∧ Fr (SF mb ib tg) w0 w2 := by
  obtain ⟨n1, n2, n3, n4, n5, n6, n7, n8, n9, n10⟩ := h.ne_
  obtain ⟨l1, l2, l3, l4, l5⟩ := h.lt
  have hs : (w1.setCell ⟨ib, k, none⟩ (.int .i32 x)).heap.size = w1.heap.size := by simp [World.setCell]
  have h01 := hg.size
  have hoth : ∀ g, g ≠ ib → (w1.setCell ⟨ib, k, none⟩ (.int .i32 x)).heap[g]? = w1.heap[g]? := fun g hg => Below.heap_setCell _ _ _ _ hg
  refine ⟨⟨?_, hm.heap ?_, ?_, ?_, hgd⟩, ⟨?_, ?_, ?_, ?_, fun g hlt hn => ?_⟩⟩
  · rw [hg2.block b (by omega) (by simpa using n4), hoth b n2, hg.block b l1 (by simpa using n1), h.1, List.length_set]
  · rw [hg2.block mb (by omega) (by simpa using n7), hoth mb n5]
  · rw [hg2.block ib (by omega) (by simpa using n9)]
    have h3 := hg.block ib l3 (by simpa using n5.symm)
    rw [h.2.2.1] at h3
    simp only [World.setCell, Array.getElem?_modify, if_true, h3, Option.map_some]
    rw [← i32s_set]
    rfl
  · rw [List.length_set, takenV_set hk x on hon]; exact hr
  · rw [hg2.os]; exact hg.os
  · rw [hg2.tape]; exact hg.tape
  · rw [hg2.output]; exact hg.output
  · have := hg2.size; omega
  · unfold SF at hn
    rw [hg2.block g (by omega) (fun e => hn (.inr (.inr (Option.some.inj e)))), hoth g (fun e => hn (.inr (.inl e))), hg.block g hlt (fun e => hn (.inl (Option.some.inj e)))]
def freeV : Option Nat → Value
  | none => .tuple #[.int .i64 0, .bool false]
  | some k => .tuple #[.int .i64 (k : Int), .bool true]
set_option maxHeartbeats 1000000 in
set_option maxRecDepth 100000 in
theorem least_any (h : SlAt w b mb ib tb tg l) : Calls Tryd.prog 64 #[.pointer (some ⟨b, 0, none⟩)] w (ValP (freeV (posF l 0)) w) := by
  have HH := Lib.hid (held_any h)
  have hl4 : l.length ≤ 4096 := h.2.2.2.2.1
  have HHA : Hid (∀ (j : Nat) X, j < l.length → Below w.heap.size w X → Calls Tryd.prog 25 #[.pointer (some ⟨tb, 0, none⟩), .int .i64 (j : Int)] X fun e w' => e = .returned (.bool (decide (l.getD j 0 ≠ 0))) ∧ X = w') := Lib.hid fun j X hj hX => by
    have := has_any tb tg l.length (takenV l) (j : Int) X (h.2.2.2.1.below hX)
    rw [has_idI] at this
    unfold idI at this
    rwa [if_pos ⟨by omega, by omega⟩, Int.toNat_natCast] at this
  have HLN : Hid (∀ X, Below w.heap.size w X → Calls Tryd.prog 15 #[.pointer (some ⟨tb, 0, none⟩)] X fun e w' => e = .returned (.int .i64 l.length) ∧ X = w') := Lib.hid fun X hX => len_any tb tg l.length (takenV l) X (h.2.2.2.1.below hX)
  have HF : Hid (∀ j, j < l.length → (∀ i, i < j → l.getD i 0 ≠ 0) → l.getD j 0 = 0 → posF l 0 = some j) := Lib.hid fun j hj h1 h2 => by
    rcases hp : posF l 0 with _ | m
    · exact absurd h2 (posF_none hp j hj)
    · obtain ⟨h3, h4, h5⟩ := posF_some hp
      rcases Nat.lt_trichotomy m j with h6 | h6 | h6
      · exact absurd h4 (h1 m h6)
      · rw [h6]
      · exact absurd h2 (h5 j h6)
  have HN : Hid ((∀ i, i < l.length → l.getD i 0 ≠ 0) → posF l 0 = none) := Lib.hid fun h1 => by
    rcases hp : posF l 0 with _ | m
    · rfl
    · obtain ⟨h3, h4, h5⟩ := posF_some hp
      exact absurd h4 (h1 m h3)
  have hlt := h.lt.1
  generalize posF l 0 = r at HF HN ⊢
  obtain ⟨n, hn⟩ : ∃ n, n = l.length := ⟨_, rfl⟩
  rw [← hn] at HF HN HHA hl4 HH HLN
  clear h hn
  go_enter Tryd.func64, Tryd.ntmps64
  go_wp2_with fail
  refine (HH.out).mono ?_
  rintro e w1 ⟨rfl, hb⟩
  have HB := Lib.hid hb
  clear hb HH
  go_wp2_with fail
  refine (HLN.out _ (below_box HB.out _)).mono ?_
  rintro e w2 ⟨rfl, rfl⟩
  have HB2 : Hid (∀ o, Below w.heap.size w (w1.alloc o)) := Lib.hid fun o => below_box HB.out o
  clear HB HLN
  go_wp2_with fail
  go_loopw [11] (fun s11 wr => ∃ j : Nat, s11 = .int .i64 (j : Int) ∧ j ≤ n ∧ Hid (∀ i, i < j → l.getD i 0 ≠ 0) ∧ wr = w1.alloc (.cells #[.map (some mb), .slice (some ⟨ib, 0, none⟩) n n, .pointer (some ⟨tb, 0, none⟩)] 91)) (fun s11 _ => n - (intOf s11).toNat)
  case atStart => exact ⟨0, rfl, Nat.zero_le _, Lib.hid (fun i hi => absurd hi (Nat.not_lt_zero _)), rfl⟩
  case round =>
    obtain ⟨j, rfl, hj, HZ, rfl⟩ := hrel
    by_cases hlt2 : j < n
    · have HC := Lib.hid (HHA.out j _ hlt2 (HB2.out (.cells #[.map (some mb), .slice (some ⟨ib, 0, none⟩) n n, .pointer (some ⟨tb, 0, none⟩)] 91)))
      by_cases h0 : l.getD j 0 = 0
      · have e1 : decide (l.getD j 0 ≠ 0) = false := decide_eq_false (fun hne => hne h0)
        rw [e1] at HC
        have hr := HF.out j hlt2 HZ.out h0
        subst hr
        clear h0 e1 HF HN HHA
        go_wp2_with fail
        refine (HC.out).mono ?_
        rintro e w2 ⟨rfl, rfl⟩
        go_wp2
        go_ret2
        exact ⟨rfl, HB2.out _⟩
      · have e1 : decide (l.getD j 0 ≠ 0) = true := decide_eq_true h0
        rw [e1] at HC
        have HZ2 : Hid (∀ i, i < j + 1 → l.getD i 0 ≠ 0) := Lib.hid fun i hi => by
          rcases Nat.lt_or_ge i j with h6 | h6
          · exact HZ.out i h6
          · rw [show i = j by omega]; exact h0
        clear h0 e1
        go_wp2_with fail
        refine (HC.out).mono ?_
        rintro e w2 ⟨rfl, rfl⟩
        go_wp2_with fail
        go_roundw
        case rel => exact ⟨j + 1, by go_num, by omega, HZ2, by first | rfl | trivial⟩
        case measure => simp [intOf]; omega
    · have hr := HN.out (fun i hi => HZ.out i (by omega))
      subst hr
      clear HF HN HHA
      go_wp2
      go_ret2
      exact ⟨rfl, HB2.out _⟩
theorem SlAt.row_at {w0 w1 : World} (h : SlAt w0 b mb ib tb tg l) (hg : w0.grownBy w1 (some mb)) (k : Nat) (x : Int) : RowAt (w1.setCell ⟨ib, k, none⟩ (.int .i32 x)) tb tg l.length (takenV l) := by
  obtain ⟨n1, n2, n3, n4, n5, n6, n7, n8, n9, n10⟩ := h.ne_
  obtain ⟨l1, l2, l3, l4, l5⟩ := h.lt
  refine h.2.2.2.1.keep ?_ ?_
  · rw [Below.heap_setCell _ _ _ _ n8.symm, hg.block tb l4 (by simpa using n6.symm)]
  · rw [Below.heap_setCell _ _ _ _ n9.symm, hg.block tg l5 (by simpa using n7.symm)]
def takeV (p : List Int × Int × Int) : Value := .tuple #[.int .i64 p.2.1, .int .i64 p.2.2]
set_option maxHeartbeats 2000000 in
set_option maxRecDepth 100000 in
theorem take_any (h : SlAt w b mb ib tb tg l) (x : Int) : Calls Tryd.prog 32 #[.pointer (some ⟨b, 0, none⟩), .int .i64 x] w (ChP b mb ib tb tg (takeL l x).1 (takeV (takeL l x)) w) := by
  have HID := Lib.hid (isId_any (w := w) x)
  have hg := h.2.2.2.2
  have HSL := Lib.hid (slot_any h x)
  have hst : ∀ X, Below w.heap.size w X → SlAt X b mb ib tb tg l ∧ Fr (SF mb ib tg) w X := fun X hX => ⟨h.below hX, Fr.of_below hX⟩
  unfold takeL
  by_cases hx : 1 ≤ x ∧ x ≤ 1048575
  · rw [decide_eq_true hx] at HID
    rw [if_neg (by simpa using hx)]
    by_cases hsl : (slotF l x).isSome = true
    · rw [hsl] at HSL
      rw [if_pos hsl]
      have HST := Lib.hid hst
      clear hst h hg hx hsl
      unfold takeV
      dsimp only
      go_enter Tryd.func32, Tryd.ntmps32
      go_wp2_with fail
      refine (HID.out).mono ?_
      rintro e w1 ⟨rfl, rfl⟩
      go_wp2_with fail
      refine (HSL.out).mono ?_
      rintro e w2 ⟨rfl, hb⟩
      go_wp2
      go_ret2
      exact ⟨rfl, HST.out _ hb⟩
    · have hn : slotF l x = none := by
        rcases hs : slotF l x with _ | v
        · rfl
        · rw [hs] at hsl; exact absurd rfl hsl
      rw [hn] at HSL
      rw [if_neg hsl]
      dsimp only [Option.getD, Option.isSome] at HSL
      have HLF : Hid (∀ X, Below w.heap.size w X → Calls Tryd.prog 64 #[.pointer (some ⟨b, 0, none⟩)] X (ValP (freeV (posF l 0)) X)) := Lib.hid fun X hX => least_any (h.below hX)
      rcases hp : posF l 0 with _ | k
      · rw [hp] at HLF
        have HST := Lib.hid hst
        clear hst h hg hx hsl hn hp
        unfold takeV
        dsimp only [freeV] at HLF ⊢
        go_enter Tryd.func32, Tryd.ntmps32
        go_wp2_with fail
        refine (HID.out).mono ?_
        rintro e w1 ⟨rfl, rfl⟩
        go_wp2_with fail
        refine (HSL.out).mono ?_
        rintro e w2 ⟨rfl, hb⟩
        have HB := Lib.hid hb
        clear hb
        go_wp2_with fail
        refine (HLF.out _ HB.out).mono ?_
        rintro e w3 ⟨rfl, hb⟩
        have HB3 := Lib.hid (HB.out.trans (hb.mono HB.out.size))
        clear hb
        go_wp2
        go_ret2
        exact ⟨rfl, HST.out _ HB3.out⟩
      · rw [hp] at HLF
        obtain ⟨hk, h0, _⟩ := posF_some hp
        have hl4 : l.length ≤ 4096 := hg.1
        have hgd := good_new (k := k) hg hx hn
        have hcn : cntL (l.set k x) = cntL l + 1 := by
          have := cntL_set l k x hk
          rw [if_pos h0, if_neg (by omega)] at this
          omega
        have hcl := cntL_le l
        have HSE : Hid (∀ X, Below w.heap.size w X → SlAt X b mb ib tb tg l) := Lib.hid fun X hX => h.below hX
        have HCM : Hid (cntL l < maxLen) := Lib.hid (by simp only [maxLen]; omega)
        have HF := Lib.hid (fun y => slotF_new hg hx hn hk h0 y)
        have HCN := Lib.hid hcn
        have HGD := Lib.hid hgd
        have HNE := Lib.hid h.ne_
        have HLT := Lib.hid h.lt
        have HNN := Lib.hid hn
        have HK := Lib.hid (key32 (x := x) (by omega))
        have HWF : Hid ((Lit.int .i32 (k : Int)).wf = true) := Lib.hid (WalkArith.wf_i32 (by omega))
        have HON : Hid (true = decide (x ≠ 0)) := Lib.hid (decide_eq_true (by omega)).symm
        have hw : IntKind.i32.wrap x = x := i32_in (by omega)
        have hw2 : IntKind.i32.wrap (k : Int) = (k : Int) := i32_in (by omega)
        have hb0 := h.lt.1
        have hi0 := h.lt.2.2.1
        clear hst hg hsl hn hp h0 hgd hcn
        unfold takeV
        dsimp only [freeV] at HLF ⊢
        obtain ⟨hx1, hx2⟩ := hx
        have HFR : Hid (∀ X, Below w.heap.size w X → Fr (SF mb ib tg) w X) := Lib.hid fun X hX => Fr.of_below hX
        generalize hL : l.set k x = l' at HF HCN HGD ⊢
        have HL := Lib.hid hL
        clear hL h
        obtain ⟨n, hn⟩ : ∃ n, n = l.length := ⟨_, rfl⟩
        have hkn : k < n := by omega
        have hn4 : n ≤ 4096 := by omega
        have HN := Lib.hid hn
        clear hn hl4
        go_enter Tryd.func32, Tryd.ntmps32
        go_wp2_with fail
        refine (HID.out).mono ?_
        rintro e w1 ⟨rfl, rfl⟩
        go_wp2_with fail
        refine (HSL.out).mono ?_
        rintro e w2 ⟨rfl, hb⟩
        have HB := Lib.hid hb
        clear hb
        go_wp2_with fail
        refine (HLF.out _ HB.out).mono ?_
        rintro e w3 ⟨rfl, hb⟩
        have HB3 := Lib.hid (HB.out.trans (hb.mono HB.out.size))
        clear hb HB HSL HLF
        have HS3 := Lib.hid (HSE.out _ HB3.out)
        obtain ⟨c0, c1, c2⟩ := HS3.out.cells
        rw [← HN.out] at c1
        go_wp2_with (at_mapUpdate; go_loud (refine wp_storeZ keyed32 Tryd.underlying88 Tryd.underlying21 rfl (.tmp 30) (.tmp 32) (.tmp 34) rfl HS3.out.2.1 HCM.out rfl x rfl HK.out (k : Int) HWF.out rfl (slotF l') HNN.out (fun z hz => by rw [HF.out, if_pos (k32_inj hz)]) (fun z hz => by rw [HF.out, if_neg (fun e => hz (by rw [e]))]) ?_; intro w4 hm hgr; have HM := Lib.hid hm; have HG := Lib.hid hgr; have d1 := hgr.cell c1 (by simpa using HNE.out.1); have d2 := hgr.cell c2 (by simpa using HNE.out.1); have d3 := hgr.cell (HS3.out.id (by rw [← HN.out]; exact hkn)).1 (by simpa using HNE.out.2.2.2.2.1.symm); have d4 : w4.frozen? ⟨ib, k, none⟩ = false := (World.frozen?_of_block (a := ⟨ib, k, none⟩) (hgr.block ib (HS3.out.lt.2.2.1) (by simpa using HNE.out.2.2.2.2.1.symm))).trans (HS3.out.id (by rw [← HN.out]; exact hkn)).2; have d5 : ib ≠ b := HNE.out.2.1.symm; clear hm hgr c0 c1 c2))
        have HR := Lib.hid (HS3.out.row_at HG.out k x)
        go_wp2_with fail
        refine (set_any tb tg l.length (takenV l) (k : Int) true _ HR.out).mono ?_
        rintro e w5 ⟨rfl, hr, hg2⟩
        have HP := Lib.hid (HS3.out.put (k := k) (x := x) (w1 := w4) (w2 := w5) (on := true) (by rw [← HN.out]; exact hkn) (by rw [HL.out, HCN.out]; exact HM.out) HG.out HON.out hr hg2 (by rw [HL.out]; exact HGD.out))
        clear hr hg2
        go_wp2
        go_ret2
        exact ⟨rfl, by have := HP.out.1; rwa [HL.out] at this, (HFR.out _ HB3.out).trans HP.out.2 (fun _ _ e => e)⟩
  · rw [decide_eq_false hx] at HID
    rw [if_pos (by simpa using hx)]
    have HST := Lib.hid hst
    clear hst h hg hx HSL
    unfold takeV
    dsimp only
    go_enter Tryd.func32, Tryd.ntmps32
    go_wp2_with fail
    refine (HID.out).mono ?_
    rintro e w1 ⟨rfl, rfl⟩
    go_wp2
    go_ret2
    exact ⟨rfl, HST.out _ (Below.refl _ _)⟩
set_option maxHeartbeats 2000000 in
set_option maxRecDepth 100000 in
theorem free_any (h : SlAt w b mb ib tb tg l) (x : Int) : Calls Tryd.prog 30 #[.pointer (some ⟨b, 0, none⟩), .int .i64 x] w (ChP b mb ib tb tg (freeL l x).1 (.int .i64 (freeL l x).2) w) := by
  have hg := h.2.2.2.2
  have HSL := Lib.hid (slot_any h x)
  unfold freeL
  rcases hs : slotF l x with _ | v
  · rw [hs] at HSL
    have HST : Hid (∀ X, Below w.heap.size w X → SlAt X b mb ib tb tg l ∧ Fr (SF mb ib tg) w X) := Lib.hid fun X hX => ⟨h.below hX, Fr.of_below hX⟩
    clear h hg hs
    dsimp only [Option.getD, Option.isSome] at HSL ⊢
    go_enter Tryd.func30, Tryd.ntmps30
    go_wp2_with fail
    refine (HSL.out).mono ?_
    rintro e w2 ⟨rfl, hb⟩
    go_wp2
    go_ret
    exact ⟨rfl, HST.out _ hb⟩
  · obtain ⟨k, hk, h0, hx0, rfl⟩ := (slotF_iff hg).1 hs
    have hl4 : l.length ≤ 4096 := hg.1
    have hbd := hg.2.1 k hk
    rw [h0] at hbd
    have hgd := good_zero hg k
    have hcn : cntL l = cntL (l.set k 0) + 1 := by
      have := cntL_set l k 0 hk
      rw [if_neg (by rw [h0]; exact hx0), if_pos rfl] at this
      omega
    rw [hs] at HSL
    dsimp only [Option.getD, Option.isSome] at HSL ⊢
    rw [Int.toNat_natCast]
    have HSE : Hid (∀ X, Below w.heap.size w X → SlAt X b mb ib tb tg l) := Lib.hid fun X hX => h.below hX
    have HF : Hid (∀ y, slotF (l.set k 0) y = if y = x then none else slotF l y) := Lib.hid (fun y => by have := slotF_zero hg hk (by rw [h0]; exact hx0) y; rwa [h0] at this)
    have HCN := Lib.hid hcn
    have HGD := Lib.hid hgd
    have HNE := Lib.hid h.ne_
    have HNN : Hid ((slotF l x).isSome = true) := Lib.hid (by rw [hs]; rfl)
    have HK := Lib.hid (key32 (x := x) (by omega))
    have HON : Hid (false = decide ((0 : Int) ≠ 0)) := Lib.hid (by decide)
    have hw : IntKind.i32.wrap x = x := i32_in (by omega)
    have hb0 := h.lt.1
    have hi0 := h.lt.2.2.1
    have HFR : Hid (∀ X, Below w.heap.size w X → Fr (SF mb ib tg) w X) := Lib.hid fun X hX => Fr.of_below hX
    clear hg hs h0 hgd hcn
    generalize hL : l.set k 0 = l' at HF HCN HGD ⊢
    have HL := Lib.hid hL
    clear hL h
    obtain ⟨n, hn⟩ : ∃ n, n = l.length := ⟨_, rfl⟩
    have hkn : k < n := by omega
    have hn4 : n ≤ 4096 := by omega
    have HN := Lib.hid hn
    clear hn hl4
    go_enter Tryd.func30, Tryd.ntmps30
    go_wp2_with fail
    refine (HSL.out).mono ?_
    rintro e w3 ⟨rfl, hb⟩
    have HB3 := Lib.hid hb
    clear hb HSL
    have HS3 := Lib.hid (HSE.out _ HB3.out)
    obtain ⟨c0, c1, c2⟩ := HS3.out.cells
    rw [← HN.out] at c1
    have HM0 : Hid (MZ Tryd.prog 21 21 .i32 k32 w3 mb (cntL l' + 1) (slotF l)) := Lib.hid (by rw [← HCN.out]; exact HS3.out.2.1)
    go_wp2_with (at_delete; refine wp_dropZ keyed32 Tryd.underlying88 rfl (.tmp 18) (.tmp 20) rfl HM0.out rfl x rfl HK.out (slotF l') HNN.out (fun z hz => by rw [HF.out, if_pos (k32_inj hz)]) (fun z hz => by rw [HF.out, if_neg (fun e => hz (by rw [e]))]) ?_; intro w4 hm hgr; have HM := Lib.hid hm; have HG := Lib.hid hgr; have d1 := hgr.cell c1 (by simpa using HNE.out.1); have d2 := hgr.cell c2 (by simpa using HNE.out.1); have d3 := hgr.cell (HS3.out.id (by rw [← HN.out]; exact hkn)).1 (by simpa using HNE.out.2.2.2.2.1.symm); have d4 : w4.frozen? ⟨ib, k, none⟩ = false := (World.frozen?_of_block (a := ⟨ib, k, none⟩) (hgr.block ib (HS3.out.lt.2.2.1) (by simpa using HNE.out.2.2.2.2.1.symm))).trans (HS3.out.id (by rw [← HN.out]; exact hkn)).2; have d5 : ib ≠ b := HNE.out.2.1.symm; clear hm hgr c0 c1 c2)
    have HR := Lib.hid (HS3.out.row_at HG.out k 0)
    go_wp2_with fail
    refine (set_any tb tg l.length (takenV l) (k : Int) false _ HR.out).mono ?_
    rintro e w5 ⟨rfl, hr, hg2⟩
    have HP := Lib.hid (HS3.out.put (k := k) (x := 0) (w1 := w4) (w2 := w5) (on := false) (by rw [← HN.out]; exact hkn) (by rw [HL.out]; exact HM.out) HG.out HON.out hr hg2 (by rw [HL.out]; exact HGD.out))
    clear hr hg2
    go_wp2
    go_ret
    exact ⟨rfl, by have := HP.out.1; rwa [HL.out] at this, (HFR.out _ HB3.out).trans HP.out.2 (fun _ _ e => e)⟩
/-! nil -/
theorem row_nil : Calls Tryd.prog 15 #[.pointer none] w fun e w' => e = .returned (.int .i64 0) ∧ w = w' := by
  go_enter Tryd.func15, Tryd.ntmps15
  go_wp2
  go_ret
  exact ⟨rfl, rfl⟩
set_option maxHeartbeats 1000000 in
set_option maxRecDepth 100000 in
theorem least_nil : Calls Tryd.prog 64 #[.pointer none] w (ValP (.tuple #[.int .i64 0, .bool false]) w) := by
  have HH := Lib.hid (held_nil (w := w))
  go_enter Tryd.func64, Tryd.ntmps64
  go_wp2_with fail
  refine (HH.out).mono ?_
  rintro e w1 ⟨rfl, hb⟩
  have HB := Lib.hid hb
  clear hb HH
  go_wp2_with fail
  refine (row_nil).mono ?_
  rintro e w2 ⟨rfl, rfl⟩
  go_wp2_with fail
  go_loopw [11] (fun s11 wr => s11 = .int .i64 0 ∧ Hid (Below w.heap.size w wr)) (fun _ _ => 0)
  case atStart => exact ⟨rfl, Lib.hid (below_box HB.out _)⟩
  case round =>
    obtain ⟨rfl, HB2⟩ := hrel
    go_wp2
    go_ret2
    exact ⟨rfl, HB2.out⟩
theorem take_nil (x : Int) (hx : 1 ≤ x ∧ x ≤ 1048575) : Calls Tryd.prog 32 #[.pointer none, .int .i64 x] w (ValP (.tuple #[.int .i64 0, .int .i64 2]) w) := by
  have HID := Lib.hid (isId_any (w := w) x)
  rw [decide_eq_true hx] at HID
  have HSL := Lib.hid (slot_nil (w := w) x)
  go_enter Tryd.func32, Tryd.ntmps32
  go_wp2_with fail
  refine (HID.out).mono ?_
  rintro e w1 ⟨rfl, rfl⟩
  go_wp2_with fail
  refine (HSL.out).mono ?_
  rintro e w2 ⟨rfl, hb⟩
  have HB := Lib.hid hb
  clear hb
  go_wp2_with fail
  refine (least_nil).mono ?_
  rintro e w3 ⟨rfl, hb⟩
  have HB3 := Lib.hid (HB.out.trans (hb.mono HB.out.size))
  clear hb
  go_wp2
  go_ret2
  exact ⟨rfl, HB3.out⟩
theorem free_nil (x : Int) : Calls Tryd.prog 30 #[.pointer none, .int .i64 x] w (ValP (.int .i64 3) w) := by
  have HSL := Lib.hid (slot_nil (w := w) x)
  go_enter Tryd.func30, Tryd.ntmps30
  go_wp2_with fail
  refine (HSL.out).mono ?_
  rintro e w2 ⟨rfl, hb⟩
  go_wp2
  go_ret
  exact ⟨rfl, hb⟩
end Go.Proofs.YtoakpmbiplmpbaaDoor.Sl
