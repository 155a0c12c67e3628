/-
  The document's slots: whose one is, an id's, one more taken. Not a statement of the seat.
-/
import Derived.Test.YtoakpmbiplmpbaaDoorSl4
import Derived.Test.YtoakpmbiplmpbaaDoorPaiSame
namespace Go.Proofs.YtoakpmbiplmpbaaDoor.Sl
open Go.ChangeShapes Go.WideShapes Go.ChangeAt Go.RowKit Go.Maps Base Bits Mp F
variable {w : World}
theorem find_at {α : Type} (f : α → Bool) (d : α) : ∀ (l : List α) (k : Nat), k < l.length → (∀ j, j < k → f (l.getD j d) = false) → f (l.getD k d) = true → l.find? f = some (l.getD k d)
  | [], k, h, _, _ => by simp at h
  | x :: l, 0, _, _, h2 => by
    have h3 : f x = true := by simpa using h2
    rw [List.find?_cons, h3]
    simp
  | x :: l, k + 1, h, h1, h2 => by
    have h0 := h1 0 (by omega)
    have ih := find_at f d l k (by simpa using h) (fun j hj => by have := h1 (j + 1) (by omega); simpa using this) (by simpa using h2)
    simp only [List.getD_cons_zero] at h0
    rw [List.find?_cons, h0, ih]
    simp
theorem find_no {α : Type} (f : α → Bool) (d : α) (l : List α) (h : ∀ j, j < l.length → f (l.getD j d) = false) : l.find? f = none := by
  rw [List.find?_eq_none]
  intro x hx
  obtain ⟨j, hj, rfl⟩ := List.getElem_of_mem hx
  have := h j hj
  rw [List.getD_eq_getElem?_getD, List.getElem?_eq_getElem hj] at this
  simpa using this
set_option maxHeartbeats 2000000 in
set_option maxRecDepth 100000 in
theorem id_ref {base : Nat} (v : Value) (l : List Pai) (key : Int) (w : World) (h : Pais base w v l) (hl : l.length ≤ 100000) : Calls Tryd.prog 35 #[v, .int .i64 key] w (ValP (.int .i64 (idR l key)) w) := by
  obtain ⟨p, c, rfl, _, hc⟩ := h.open_
  have HC := Lib.hid hc
  have HG : Hid (∀ k, k < l.length → (∀ j, j < k → ((l.getD j Pai.zero).k == key) = false) → ((l.getD k Pai.zero).k == key) = true → idR l key = (l.getD k Pai.zero).v) := Lib.hid fun k hk h1 h2 => by
    unfold idR
    rw [find_at (fun p : Pai => p.k == key) Pai.zero l k hk h1 h2]
  have HN : Hid ((∀ j, j < l.length → ((l.getD j Pai.zero).k == key) = false) → idR l key = 0) := Lib.hid fun h1 => by
    unfold idR
    rw [find_no (fun p : Pai => p.k == key) Pai.zero l h1]
  have HB0 := Lib.hid (Below.refl w.heap.size w)
  generalize idR l key = r at HG HN ⊢
  clear h hc
  go_enter Tryd.func35, Tryd.ntmps35
  go_wp2_with fail
  go_loopw [6, 9] (fun _ s9 wr => ∃ k : Nat, s9 = .int .i64 (k : Int) ∧ k ≤ l.length ∧ Hid (∀ j, j < k → ((l.getD j Pai.zero).k == key) = false) ∧ Hid (Below w.heap.size w wr)) (fun _ s9 _ => l.length - (intOf s9).toNat)
  case atStart => exact ⟨0, rfl, Nat.zero_le _, Lib.hid (fun j hj => absurd hj (Nat.not_lt_zero _)), HB0⟩
  case round =>
    obtain ⟨k, rfl, hk, HF, HB⟩ := hrel
    by_cases hlt : k < l.length
    · obtain ⟨g', o', rfl, _, hg, c0, c1⟩ := HC.out k hlt
      have c0 := (HB.out.cell (p := ⟨g', _, none⟩) hg).trans c0
      have c1 := (HB.out.cell (p := ⟨g', _, none⟩) hg).trans c1
      have HGT := Lib.hid (HG.out k hlt HF.out)
      have HF2 : Hid (((l.getD k Pai.zero).k == key) = false → ∀ j, j < k + 1 → ((l.getD j Pai.zero).k == key) = false) := Lib.hid fun h0 j hj => by
        rcases Nat.lt_or_ge j k with h6 | h6
        · exact HF.out j h6
        · rw [show j = k by omega]; exact h0
      generalize hx0 : l.getD k Pai.zero = x at c0 c1 HGT HF2
      clear hx0
      obtain ⟨xk, xv⟩ := x
      simp only at c0 c1 HGT HF2
      have HB2 : Hid (∀ X, Below wr.heap.size wr X → Below w.heap.size w X) := Lib.hid fun X hX => HB.out.trans (hX.mono HB.out.size)
      by_cases he : xk = key
      · have he1 : (xk == key) = true := by rw [beq_iff_eq]; exact he
        have hr := HGT.out he1
        subst hr
        clear he hg HG HN HGT HF2
        go_wp2_with fail
        go_ret
        exact ⟨rfl, HB2.out _ (by go_grown)⟩
      · have he1 : (xk == key) = false := by rw [beq_eq_false_iff_ne]; exact he
        have HF3 := Lib.hid (HF2.out he1)
        clear he hg HGT HF2
        go_wp2_with fail
        go_roundw
        case rel => exact ⟨k + 1, by go_num, by omega, HF3, Lib.hid (HB2.out _ (by go_grown))⟩
        case measure => simp [intOf]; omega
    · have e : k = l.length := by omega
      subst e
      have hr := HN.out HF.out
      subst hr
      clear HC HG HN
      go_wp2
      go_ret
      exact ⟨rfl, HB.out⟩
set_option maxHeartbeats 2000000 in
set_option maxRecDepth 100000 in
theorem slot_ref {base : Nat} (v : Value) (l : List Pai) (key : Int) (w : World) (h : Pais base w v l) (hl : l.length ≤ 100000) : Calls Tryd.prog 28 #[v, .int .i64 key] w (ValP (.int .i64 (slotR l key)) w) := by
  obtain ⟨p, c, rfl, _, hc⟩ := h.open_
  have HC := Lib.hid hc
  have HG : Hid (∀ k, k < l.length → (∀ j, j < k → ((l.getD j Pai.zero).v == key) = false) → ((l.getD k Pai.zero).v == key) = true → slotR l key = (l.getD k Pai.zero).k) := Lib.hid fun k hk h1 h2 => by
    unfold slotR
    rw [find_at (fun p : Pai => p.v == key) Pai.zero l k hk h1 h2]
  have HN : Hid ((∀ j, j < l.length → ((l.getD j Pai.zero).v == key) = false) → slotR l key = -1) := Lib.hid fun h1 => by
    unfold slotR
    rw [find_no (fun p : Pai => p.v == key) Pai.zero l h1]
  have HB0 := Lib.hid (Below.refl w.heap.size w)
  generalize slotR l key = r at HG HN ⊢
  clear h hc
  go_enter Tryd.func28, Tryd.ntmps28
  go_wp2_with fail
  go_loopw [6, 9] (fun _ s9 wr => ∃ k : Nat, s9 = .int .i64 (k : Int) ∧ k ≤ l.length ∧ Hid (∀ j, j < k → ((l.getD j Pai.zero).v == key) = false) ∧ Hid (Below w.heap.size w wr)) (fun _ s9 _ => l.length - (intOf s9).toNat)
  case atStart => exact ⟨0, rfl, Nat.zero_le _, Lib.hid (fun j hj => absurd hj (Nat.not_lt_zero _)), HB0⟩
  case round =>
    obtain ⟨k, rfl, hk, HF, HB⟩ := hrel
    by_cases hlt : k < l.length
    · obtain ⟨g', o', rfl, _, hg, c0, c1⟩ := HC.out k hlt
      have c0 := (HB.out.cell (p := ⟨g', _, none⟩) hg).trans c0
      have c1 := (HB.out.cell (p := ⟨g', _, none⟩) hg).trans c1
      have HGT := Lib.hid (HG.out k hlt HF.out)
      have HF2 : Hid (((l.getD k Pai.zero).v == key) = false → ∀ j, j < k + 1 → ((l.getD j Pai.zero).v == key) = false) := Lib.hid fun h0 j hj => by
        rcases Nat.lt_or_ge j k with h6 | h6
        · exact HF.out j h6
        · rw [show j = k by omega]; exact h0
      generalize hx0 : l.getD k Pai.zero = x at c0 c1 HGT HF2
      clear hx0
      obtain ⟨xk, xv⟩ := x
      simp only at c0 c1 HGT HF2
      have HB2 : Hid (∀ X, Below wr.heap.size wr X → Below w.heap.size w X) := Lib.hid fun X hX => HB.out.trans (hX.mono HB.out.size)
      by_cases he : xv = key
      · have he1 : (xv == key) = true := by rw [beq_iff_eq]; exact he
        have hr := HGT.out he1
        subst hr
        clear he hg HG HN HGT HF2
        go_wp2_with fail
        go_ret
        exact ⟨rfl, HB2.out _ (by go_grown)⟩
      · have he1 : (xv == key) = false := by rw [beq_eq_false_iff_ne]; exact he
        have HF3 := Lib.hid (HF2.out he1)
        clear he hg HGT HF2
        go_wp2_with fail
        go_roundw
        case rel => exact ⟨k + 1, by go_num, by omega, HF3, Lib.hid (HB2.out _ (by go_grown))⟩
        case measure => simp [intOf]; omega
    · have e : k = l.length := by omega
      subst e
      have hr := HN.out HF.out
      subst hr
      clear HC HG HN
      go_wp2
      go_ret
      exact ⟨rfl, HB.out⟩
theorem ref02_id (x : Int) : Calls Tryd.prog 61 #[.int .i64 x] w fun e w' => e = .returned (.bool (decide (1 ≤ x ∧ x ≤ 1048575))) ∧ w = w' := by
  by_cases h1 : 1 ≤ x
  · by_cases h2 : x ≤ 1048575
    · rw [decide_eq_true ⟨h1, h2⟩]
      go_enter Tryd.func61, Tryd.ntmps61
      go_wp2
      go_ret
      exact ⟨rfl, rfl⟩
    · rw [decide_eq_false (by omega)]
      go_enter Tryd.func61, Tryd.ntmps61
      go_wp2
      go_ret
      exact ⟨rfl, rfl⟩
  · rw [decide_eq_false (by omega)]
    go_enter Tryd.func61, Tryd.ntmps61
    go_wp2
    go_ret
    exact ⟨rfl, rfl⟩
theorem ref_room (n : Int) : Calls Tryd.prog 38 #[.int .i64 n] w fun e w' => e = .returned (.int .i64 (roomL n : Nat)) ∧ w = w' := by
  have hc : (n < 0 ∧ roomL n = 0) ∨ (0 ≤ n ∧ n ≤ 4096 ∧ n = ((roomL n : Nat) : Int)) ∨ (4096 < n ∧ roomL n = 4096) := by unfold roomL; omega
  generalize roomL n = r at hc ⊢
  rcases hc with ⟨h1, rfl⟩ | ⟨h1, h2, rfl⟩ | ⟨h1, rfl⟩
  · go_enter Tryd.func38, Tryd.ntmps38
    go_wp2
    go_ret
    exact ⟨rfl, rfl⟩
  · go_enter Tryd.func38, Tryd.ntmps38
    go_wp2
    go_ret
    exact ⟨rfl, rfl⟩
  · have h2 : 0 ≤ n := by omega
    go_enter Tryd.func38, Tryd.ntmps38
    go_wp2
    go_ret
    exact ⟨rfl, rfl⟩
/-- What the document's Take leaves, of the pairs that ids by slots are. -/
def TakeR (base : Nat) (l : List Int) (x : Int) (w : World) (e : Ending) (w' : World) : Prop := ∃ v, e = .returned (.tuple #[v, .int .i64 (takeL l x).2.1, .int .i64 (takeL l x).2.2]) ∧ Pais base w' v (pairsL (takeL l x).1) ∧ Below w.heap.size w w'
set_option maxHeartbeats 2000000 in
set_option maxRecDepth 100000 in
theorem take_ref {base : Nat} (v : Value) (l : List Int) (n x : Int) (hg : GoodI l) (hn : l.length = roomL n) (w : World) (hbs : base ≤ w.heap.size) (h : Pais base w v (pairsL l)) : Calls Tryd.prog 31 #[v, .int .i64 n, .int .i64 x] w (TakeR base l x w) := by
  have HID := Lib.hid (ref02_id (w := w) x)
  have hpl : (pairsL l).length ≤ 100000 := by unfold pairsL; rw [pairsO_len]; have := cntL_le l; have := hg.1; omega
  have HSL := Lib.hid (slot_ref v (pairsL l) x w h hpl)
  rw [slotR_pairs hg] at HSL
  unfold TakeR takeL
  by_cases hx : 1 ≤ x ∧ x ≤ 1048575
  · rw [decide_eq_true hx] at HID
    rw [if_neg (by simpa using hx)]
    rcases hsl : slotF l x with _ | sv
    · rw [hsl] at HSL
      rw [if_neg (by simp)]
      dsimp only [Option.getD] at HSL
      have HRM : Hid (∀ X : World, Calls Tryd.prog 38 #[.int .i64 n] X fun e w' => e = .returned (.int .i64 (l.length : Nat)) ∧ X = w') := Lib.hid fun X => by rw [hn]; exact ref_room n
      have HIR : Hid (∀ (j : Nat) X, j < l.length → Below w.heap.size w X → Calls Tryd.prog 35 #[v, .int .i64 (j : Int)] X (ValP (.int .i64 (l.getD j 0)) X)) := Lib.hid fun j X hj hX => by
        have := id_ref v (pairsL l) (j : Int) X (h.below hX) hpl
        rw [idR_pairs, if_pos ⟨by omega, by omega⟩, Int.toNat_natCast] at this
        exact this
      have HPT : Hid (∀ (j : Nat) X, j < l.length → l.getD j 0 = 0 → Below w.heap.size w X → Calls Tryd.prog 62 #[v, .int .i64 (j : Int), .int .i64 x] X (PaiNew (pairsL (l.set j x)) X)) := Lib.hid fun j X hj h0 hX => by
        have := put_ref v (pairsL l) (j : Int) x X (h.below hX) hpl
        rw [pairs_put hj h0 (by omega)] at this
        exact this
      have HF : Hid (∀ j, j < l.length → (∀ i, i < j → l.getD i 0 ≠ 0) → l.getD j 0 = 0 → posF l 0 = some j) := Lib.hid fun j hj h1 h2 => by
        rcases hp : posF l 0 with _ | m
        · exact absurd h2 (posF_none hp j hj)
        · obtain ⟨h3, h4, h5⟩ := posF_some hp
          rcases Nat.lt_trichotomy m j with h6 | h6 | h6
          · exact absurd h4 (h1 m h6)
          · rw [h6]
          · exact absurd h2 (h5 j h6)
      have HN : Hid ((∀ i, i < l.length → l.getD i 0 ≠ 0) → posF l 0 = none) := Lib.hid fun h1 => by
        rcases hp : posF l 0 with _ | m
        · rfl
        · obtain ⟨h3, h4, h5⟩ := posF_some hp
          exact absurd h4 (h1 m h3)
      have HPS : Hid (∀ X, Below w.heap.size w X → Pais base X v (pairsL l)) := Lib.hid fun X hX => h.below hX
      have hl4 := hg.1
      have hpz : ∀ k, (pairsL (l.set k x)).length ≤ 9223372036854775807 := fun k => by
        unfold pairsL; rw [pairsO_len]; have := cntL_le (l.set k x); rw [List.length_set] at this; omega
      have HPZ := Lib.hid hpz
      clear hg hpl hn hsl h hpz
      generalize hr : posF l 0 = r at HF HN ⊢
      clear hr
      go_enter Tryd.func31, Tryd.ntmps31
      go_wp2_with fail
      refine (HID.out).mono ?_
      rintro e w1 ⟨rfl, rfl⟩
      go_wp2_with fail
      refine (HSL.out).mono ?_
      rintro e w1 ⟨rfl, hb⟩
      have HB1 := Lib.hid hb
      clear hb HSL HID
      go_wp2_with fail
      go_loopw [9] (fun s9 wr => ∃ j : Nat, s9 = .int .i64 (j : Int) ∧ j ≤ l.length ∧ Hid (∀ i, i < j → l.getD i 0 ≠ 0) ∧ Hid (Below w.heap.size w wr)) (fun s9 _ => l.length - (intOf s9).toNat)
      case atStart => exact ⟨0, rfl, Nat.zero_le _, Lib.hid (fun i hi => absurd hi (Nat.not_lt_zero _)), HB1⟩
      case round =>
        obtain ⟨j, rfl, hj, HZ, HB⟩ := hrel
        have HRX := Lib.hid (HRM.out wr)
        by_cases hlt : j < l.length
        · have HC := Lib.hid (HIR.out j wr hlt HB.out)
          by_cases h0 : l.getD j 0 = 0
          · have hr := HF.out j hlt HZ.out h0
            subst hr
            have HPX : Hid (∀ X, Below w.heap.size w X → Calls Tryd.prog 62 #[v, .int .i64 (j : Int), .int .i64 x] X (PaiNew (pairsL (l.set j x)) X)) := Lib.hid fun X hX => HPT.out j X hlt h0 hX
            rw [h0] at HC
            clear h0 HF HN HIR HPT
            go_wp2_with fail
            refine (HRX.out).mono ?_
            rintro e w2 ⟨rfl, rfl⟩
            go_wp2_with fail
            refine (HC.out).mono ?_
            rintro e w2 ⟨rfl, hb⟩
            have HB2 := Lib.hid (HB.out.trans (hb.mono HB.out.size))
            clear hb
            go_wp2_with fail
            refine (HPX.out _ HB2.out).mono ?_
            rintro e w3 ⟨v3, rfl, ho, hb⟩
            have HB3 := Lib.hid (HB2.out.trans (hb.mono HB2.out.size))
            have HO3 := Lib.hid ho
            clear ho hb
            go_wp2
            exact bodyPost_ret (results_tmp3 Tryd.results31 _ _ _) rfl ⟨v3, rfl, (HO3.out.list (HPZ.out j)).mono (Nat.le_trans hbs HB2.out.size), HB3.out⟩
          · have HZ2 : Hid (∀ i, i < j + 1 → l.getD i 0 ≠ 0) := Lib.hid fun i hi => by
              rcases Nat.lt_or_ge i j with h6 | h6
              · exact HZ.out i h6
              · rw [show i = j by omega]; exact h0
            have hne : (l.getD j 0 == 0) = false := by rw [beq_eq_false_iff_ne]; exact h0
            generalize l.getD j 0 = y at HC hne
            clear h0
            go_wp2_with fail
            refine (HRX.out).mono ?_
            rintro e w2 ⟨rfl, rfl⟩
            go_wp2_with fail
            refine (HC.out).mono ?_
            rintro e w2 ⟨rfl, hb⟩
            have HB2 := Lib.hid (HB.out.trans (hb.mono HB.out.size))
            clear hb
            go_wp2_with fail
            go_roundw
            case rel => exact ⟨j + 1, by go_num, by omega, HZ2, HB2⟩
            case measure => simp [intOf]; omega
        · have hr := HN.out (fun i hi => HZ.out i (by omega))
          subst hr
          clear HF HN HIR HPT
          go_wp2_with fail
          refine (HRX.out).mono ?_
          rintro e w2 ⟨rfl, rfl⟩
          go_wp2
          exact bodyPost_ret (results_tmp3 Tryd.results31 _ _ _) rfl ⟨v, rfl, HPS.out _ HB.out, HB.out⟩
    · rw [hsl] at HSL
      rw [if_pos (by rfl)]
      obtain ⟨k, hk, _, _, rfl⟩ := (slotF_iff hg).1 hsl
      dsimp only [Option.getD] at HSL ⊢
      have HPS : Hid (∀ X, Below w.heap.size w X → Pais base X v (pairsL l)) := Lib.hid fun X hX => h.below hX
      clear hg hpl hn hsl h
      go_enter Tryd.func31, Tryd.ntmps31
      go_wp2_with fail
      refine (HID.out).mono ?_
      rintro e w1 ⟨rfl, rfl⟩
      go_wp2_with fail
      refine (HSL.out).mono ?_
      rintro e w1 ⟨rfl, hb⟩
      have HB1 := Lib.hid hb
      clear hb HSL HID
      go_wp2
      exact bodyPost_ret (results_tmp3 Tryd.results31 _ _ _) rfl ⟨v, rfl, HPS.out _ HB1.out, HB1.out⟩
  · rw [decide_eq_false hx] at HID
    rw [if_pos (by simpa using hx)]
    have HPS := Lib.hid h
    clear hg hpl hn h HSL hx
    dsimp only
    go_enter Tryd.func31, Tryd.ntmps31
    go_wp2_with fail
    refine (HID.out).mono ?_
    rintro e w1 ⟨rfl, rfl⟩
    go_wp2
    exact bodyPost_ret (results_tmp3 Tryd.results31 _ _ _) rfl ⟨v, rfl, HPS.out, Below.refl _ _⟩
end Go.Proofs.YtoakpmbiplmpbaaDoor.Sl
