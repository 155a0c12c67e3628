/-
  Contracts of small functions, several texts laid into one. Not a statement of the seat.
-/
import Derived.Test.YtfdaekppheabeaaDgCl
import Derived.Test.YtfdaekppheabeaaHead16
import Derived.Test.YtfdaekppheabeaaMpE
import Derived.Test.YtfdaekppheabeaaDgRd
import Derived.Test.YtfdaekppheabeaaHead25
import Derived.Test.YtfdaekppheabeaaHead17
import Derived.Test.YtfdaekppheabeaaHead14
import Derived.Test.YtfdaekppheabeaaHead13
namespace Go.Proofs.Ytfdaekppheabeaa.Dg
open Go.ChangeShapes Go.WideShapes Go.ChangeAt Go.RowKit Base F Tx Hi
/-- What a call that tells edges with their counts leaves. -/
def HvP (c : Edg → Nat) (n : Nat) (w : World) (e : Ending) (w' : World) : Prop := ∃ v l, e = .returned v ∧ Lists c l ∧ l.length ≤ n ∧ OwnHvy w.heap.size w' v l ∧ Aft w w'
theorem sortL_facts (l : List Pk.E) : Pk.Rises (Pk.sortL l) ∧ ∀ y, y ∈ Pk.sortL l ↔ y ∈ l := by
  obtain ⟨h1, h2⟩ := Pk.fold_put1 l [] (by simp)
  exact ⟨h1, fun y => by rw [show Pk.sortL l = l.foldl (fun acc e => Pk.put1 e acc) [] from rfl, h2]; simp⟩
theorem sorted_lists {c : Edg → Nat} {ss : List Edg} (h1 : ∀ x ∈ ss, ((c x : Nat) : Int) ≠ 0) (h2 : ∀ x, Edg.ok x → ((c x : Nat) : Int) ≠ 0 → x ∈ ss) (hok : ∀ e, c e ≠ 0 → Edg.ok e) : Lists c ((Pk.sortL (ss.map toE)).map (hvy c)) := by
  obtain ⟨r1, r2⟩ := sortL_facts (ss.map toE)
  refine ⟨_, r1, fun x => ?_, rfl⟩
  rw [r2, List.mem_map]
  constructor
  · rintro ⟨y, hy, rfl⟩
    have := h1 y hy
    rw [ofE_toE]
    omega
  · intro hx
    exact ⟨ofE x, h2 _ (hok _ hx) (by omega), toE_ofE x⟩
/-- On the way. -/
def LvW (c : Edg → Nat) (ks : List Pk.E) (B b n : Nat) (w w3 : World) (k : Nat) (v : Value) (wr : World) : Prop := OwnHvy B wr v ((ks.take k).map (hvy c)) ∧ Aft w3 wr ∧ Aft w wr ∧ ME wr b n (fun e => ((c e : Nat) : Int))
set_option maxRecDepth 100000 in
set_option maxHeartbeats 16000000 in
theorem listed_any {b n : Nat} {c : Edg → Nat} (w : World) (hm : ME w b n (fun e => ((c e : Nat) : Int))) (hn : n ≤ 1000000) (hok : ∀ e, c e ≠ 0 → Edg.ok e) : Calls Try.prog 14 #[.map (some b)] w (HvP c n w) := by
  have HK := Lib.hid (keys_any (some b) w)
  obtain ⟨w1, hw1⟩ : ∃ w1, w1 = w.alloc (.cells #[.map (some b)] 51) := ⟨_, rfl⟩
  have HA1 : Hid (Aft w w1 ∧ w.heap.size ≤ w1.heap.size) := Lib.hid (by rw [hw1]; exact ⟨Aft.one _, by simp⟩)
  have HC := Lib.hid (collect_any (bm := w.heap.size) w1 (by rw [hw1]; exact heap_alloc_at _ _ _ rfl) (hm.below HA1.out.1) hn)
  have HM := Lib.hid hm
  have HBL : Hid (b < w.heap.size) := Lib.hid hm.lt
  have HOK := Lib.hid hok
  have HN := Lib.hid hn
  have HE : Hid (∀ u l W, Lists c l → l.length ≤ n → OwnHvy w.heap.size W u l → Aft w W → HvP c n w (.returned u) W) := Lib.hid fun u l W h1 h2 h3 h4 => ⟨u, l, rfl, h1, h2, h3, h4⟩
  generalize HvP c n w = Post at HE ⊢
  clear hm hok hn
  go_enter Try.func14, Try.ntmps14
  go_wp2_with fail
  refine HK.out.mono ?_
  rintro e wk ⟨rfl, hwk⟩
  rw [← hw1] at hwk
  subst hwk
  clear hw1 HK
  go_wp2_with fail
  refine HC.out.mono ?_
  rintro e w2 ⟨v2, ss, rfl, ⟨_, hsl⟩, hs1, hs2, ho2, hb2⟩
  have HA2 : Hid (Aft w w2) := Lib.hid (HA1.out.1.trans hb2)
  have HL : Hid (Lists c ((Pk.sortL (ss.map toE)).map (hvy c))) := Lib.hid (sorted_lists hs1 hs2 HOK.out)
  have hks := Pk.sortL_len (ss.map toE)
  rw [List.length_map] at hks
  have HS := Lib.hid (Pk.sortE_any w2 (ho2.eds (by rw [List.length_map]; have := HN.out; omega)) (by rw [List.length_map]; have := HN.out; omega))
  generalize Pk.sortL (ss.map toE) = ks at HL HS hks
  have HKN : Hid (ks.length ≤ n) := Lib.hid (by omega)
  clear hsl hs1 hs2 ho2 hb2 hks HC
  go_wp2_with fail
  refine HS.out.mono ?_
  rintro e w3 ⟨⟨v3, rfl, hv3⟩, hb3⟩
  obtain ⟨p, cc, rfl, hl64, hat⟩ := hv3.open_
  have HAT := Lib.hid hat
  have HA3 : Hid (Aft w w3) := Lib.hid (HA2.out.trans hb3)
  have HW0 : Hid (LvW c ks w3.heap.size b n w w3 0 (.slice none 0 0) w3) := Lib.hid ⟨OwnHvy.nil _ _, Aft.refl _, HA3.out, HM.out.below HA3.out⟩
  obtain ⟨kn, hkn⟩ : ∃ m, m = ks.length := ⟨_, rfl⟩
  have hk64 : kn ≤ 1000000 := by have := HKN.out; have := HN.out; omega
  have HKL := Lib.hid hkn
  rw [← hkn] at hl64 HAT ⊢
  clear hv3 hat hb3 HS HA2 HA1 HM hkn hl64
  go_wp2_with fail
  go_loopw [3, 11] (fun s3 s11 wr => ∃ k : Nat, s11 = .int .i64 (k : Int) ∧ k ≤ kn ∧ ∃ v, v = s3 ∧ Hid (LvW c ks w3.heap.size b n w w3 k v wr)) (fun _ s11 _ => kn - (intOf s11).toNat)
  case atStart => exact ⟨0, rfl, Nat.zero_le _, _, rfl, HW0⟩
  case round =>
    clear HW0
    obtain ⟨k, rfl, hk, v, hv, HW⟩ := hrel
    subst hv
    obtain ⟨wA, hwA⟩ : ∃ wA, wA = wr := ⟨_, rfl⟩
    subst hwA
    by_cases hlt : k < kn
    · obtain ⟨g, o, rfl, hg, c0, c1, c2, c3⟩ := HAT.out k hlt
      have ha := HW.out.2.1
      have c0 := ha.cell hg c0
      have c1 := ha.cell hg c1
      have c2 := ha.cell hg c2
      have c3 := ha.cell hg c3
      have hg := Nat.lt_of_lt_of_le hg ha.size
      have hkI : (k : Int) < (kn : Int) := by omega
      have HT : Hid ((ks.take (k + 1)).map (hvy c) = (ks.take k).map (hvy c) ++ [hvy c (ks.getD k Pk.zE)]) := Lib.hid (by rw [Tx.take_snoc ks Pk.zE k (by have := HKL.out; omega), List.map_append]; rfl)
      have HOKK : Hid (Edg.ok (ofE (ks.getD k Pk.zE))) := Lib.hid (by
        obtain ⟨ks', q1, q2, q3⟩ := HL.out
        have hm : hvy c (ks.getD k Pk.zE) ∈ ks.map (hvy c) := List.mem_map.2 ⟨_, getD_mem' _ (by have := HKL.out; omega), rfl⟩
        exact HOK.out _ (HL.out.mem hm).2)
      generalize ks.getD k Pk.zE = x at c0 c1 c2 c3 HT HOKK
      obtain ⟨x0, x1, x2, x3⟩ := x
      dsimp only at c0 c1 c2 c3
      obtain ⟨X, hX⟩ : ∃ X, X = wA.alloc (.cells #[.int .i64 x0, .int .i64 x1, .int .i64 x2, .int .i64 x3] 32) := ⟨_, rfl⟩
      have hxb : X.heap[wA.heap.size]? = some (.cells #[.int .i64 x0, .int .i64 x1, .int .i64 x2, .int .i64 x3] 32) := by rw [hX]; exact heap_alloc_at _ _ _ rfl
      have HAX : Hid (Aft wA X) := Lib.hid (by rw [hX]; exact Aft.one _)
      obtain ⟨Y, hY⟩ : ∃ Y, Y = X.drew := ⟨_, rfl⟩
      have HAY : Hid (Aft wA Y) := Lib.hid (by rw [hY]; exact HAX.out.drew 1)
      have HXY : Hid (Y.heap[wA.heap.size]? = some (.cells #[.int .i64 x0, .int .i64 x1, .int .i64 x2, .int .i64 x3] 32)) := Lib.hid (by rw [hY]; exact hxb)
      have HCX : Hid (∀ Z, Aft Y Z → Z.cell? ⟨wA.heap.size, 0, none⟩ = some (.int .i64 x0) ∧ Z.cell? ⟨wA.heap.size, 1, none⟩ = some (.int .i64 x1) ∧ Z.cell? ⟨wA.heap.size, 2, none⟩ = some (.int .i64 x2) ∧ Z.cell? ⟨wA.heap.size, 3, none⟩ = some (.int .i64 x3)) := Lib.hid fun Z hZ => by
        have := (hZ.block _ (heap_lt HXY.out)).trans HXY.out
        simp [World.cell?, this]
      have HLK : Hid ((Instr.lookup 51 (.map (some b)) (.agg #[.int .i64 x0, .int .i64 x1, .int .i64 x2, .int .i64 x3]) false).run Try.prog Y = .ok (.int .i64 ((c ⟨x0, x1, x2, x3⟩ : Nat) : Int)) Y) := Lib.hid (me_look (HW.out.2.2.2.below HAY.out) HOKK.out)
      have HT : Hid ((ks.take (k + 1)).map (hvy c) = (ks.take k).map (hvy c) ++ [⟨x0, x1, x2, x3, ((c ⟨x0, x1, x2, x3⟩ : Nat) : Int)⟩]) := HT
      have HLEN : Hid (((ks.take k).map (hvy c)).length ≤ 999999 ∧ ((ks.take k).map (hvy c)).length = k) := Lib.hid (by rw [List.length_map, List.length_take]; have := HKL.out; omega)
      generalize ((c ⟨x0, x1, x2, x3⟩ : Nat) : Int) = cv at HLK HT
      have HO : Hid (OwnHvy w3.heap.size Y v ((ks.take k).map (hvy c)) ∧ w3.heap.size ≤ Y.heap.size) := Lib.hid ⟨HW.out.1.below HAY.out, Nat.le_trans HW.out.2.1.size HAY.out.size⟩
      have HAW : Hid (Aft w3 Y ∧ Aft w Y ∧ ME Y b n (fun e => ((c e : Nat) : Int))) := Lib.hid ⟨HW.out.2.1.trans HAY.out, HW.out.2.2.1.trans HAY.out, HW.out.2.2.2.below HAY.out⟩
      obtain ⟨q0, q1, q2, q3⟩ := HCX.out Y (Aft.refl _)
      have HWB : Hid (∀ g, v.ownBlock = some g → w3.heap.size ≤ g ∧ g < wA.heap.size) := Lib.hid fun g hg => World.ownsRow.lt HW.out.1 g hg
      have HFIN : Hid (∀ Z, Aft Y Z → ∀ v5 w5, OwnHvy w3.heap.size w5 v5 ((ks.take k).map (hvy c) ++ [⟨x0, x1, x2, x3, cv⟩]) → Z.grownBy w5 v.ownBlock → LvW c ks w3.heap.size b n w w3 (k + 1) v5 w5 ∧ (w5.cell? ⟨wA.heap.size, 0, none⟩ = some (.int .i64 x0) ∧ w5.cell? ⟨wA.heap.size, 1, none⟩ = some (.int .i64 x1) ∧ w5.cell? ⟨wA.heap.size, 2, none⟩ = some (.int .i64 x2) ∧ w5.cell? ⟨wA.heap.size, 3, none⟩ = some (.int .i64 x3))) := Lib.hid fun Z hZ v5 w5 h5 hg5 => by
        have hnb : ∀ g, some g = v.ownBlock → w3.heap.size ≤ g ∧ g < wA.heap.size := fun g hg => HWB.out g hg.symm
        have hbx : w5.heap[wA.heap.size]? = some (.cells #[.int .i64 x0, .int .i64 x1, .int .i64 x2, .int .i64 x3] 32) := (hg5.block _ (Nat.lt_of_lt_of_le (heap_lt HXY.out) hZ.size) (fun e => by have := (hnb _ e).2; omega)).trans ((hZ.block _ (heap_lt HXY.out)).trans HXY.out)
        refine ⟨⟨by rw [HT.out]; exact h5, ?_, ?_, ?_⟩, by simp [World.cell?, hbx]⟩
        · exact (HAW.out.1.trans hZ).grown hg5 (Nat.le_trans HAW.out.1.size hZ.size) (fun g e => (HWB.out g e).1)
        · exact (HAW.out.2.1.trans hZ).grown hg5 (Nat.le_trans HAW.out.2.1.size hZ.size) (fun g e => Nat.le_trans HA3.out.size (HWB.out g e).1)
        · exact (HAW.out.2.2.below hZ).kept hg5 (fun e => by have h1 := (HWB.out b e.symm).1; have h2 := HBL.out; have h3 := HA3.out.size; omega)
      clear HW
      go_upto_region 5 with fail
      rw [← hX]
      clear hX c0 c1 c2 c3
      refine wp_region_held_drew (S := fun Z => Z.cell? ⟨wA.heap.size, 0, none⟩ = some (.int .i64 x0) ∧ Z.cell? ⟨wA.heap.size, 1, none⟩ = some (.int .i64 x1) ∧ Z.cell? ⟨wA.heap.size, 2, none⟩ = some (.int .i64 x2) ∧ Z.cell? ⟨wA.heap.size, 3, none⟩ = some (.int .i64 x3)) (by kernel_rfl) (hY ▸ ⟨q0, q1, q2, q3⟩) (fun hHeld0 => ?_)
      rw [← hY] at hHeld0 ⊢
      clear hY
      refine wpAnyH_take (i := 0) (v := ?_) rfl (by kernel_rfl) (by kernel_rfl) (by kernel_rfl) (fun _ _ _ h => h) (Or.inl ⟨by rfl, ?yr1⟩) (by assumption) ?qr1
      case yr1 => (intro wz hSw; (try dsimp only at hSw); go_simp <;> with_reducible rfl)
      try simp only [Act.put, List.getElem_toArray, List.getElem_cons_zero, List.setIfInBounds_toArray, List.set_cons_zero, List.set_cons_succ]
      refine wpAnyH_take (i := 1) (v := ?_) rfl (by kernel_rfl) (by kernel_rfl) (by kernel_rfl) (fun _ _ _ h => h) (Or.inl ⟨by rfl, ?yr2⟩) (by assumption) ?qr2
      case yr2 => (intro wz hSw; (try dsimp only at hSw); go_simp <;> with_reducible rfl)
      try simp only [Act.put, List.getElem_toArray, List.getElem_cons_zero, List.getElem_cons_succ, List.setIfInBounds_toArray, List.set_cons_zero, List.set_cons_succ]
      refine wpAnyH_take (i := 2) (v := ?_) rfl (by kernel_rfl) (by kernel_rfl) (by kernel_rfl) (fun _ _ _ h => h) (Or.inl ⟨by rfl, ?yr3⟩) (by assumption) ?qr3
      case yr3 => (intro wz hSw; (try dsimp only at hSw); go_simp <;> with_reducible rfl)
      try simp only [Act.put, List.getElem_toArray, List.getElem_cons_zero, List.getElem_cons_succ, List.setIfInBounds_toArray, List.set_cons_zero, List.set_cons_succ]
      refine wpAnyH_take (i := 3) (v := ?_) rfl (by kernel_rfl) (by kernel_rfl) (by kernel_rfl) (fun _ _ _ h => h) (Or.inl ⟨by rfl, ?yr4⟩) (by assumption) ?qr4
      case yr4 => (intro wz hSw; (try dsimp only at hSw); go_simp <;> with_reducible rfl)
      try simp only [Act.put, List.getElem_toArray, List.getElem_cons_zero, List.getElem_cons_succ, List.setIfInBounds_toArray, List.set_cons_zero, List.set_cons_succ]
      refine wpAnyH_ready (rs := [4]) (by kernel_rfl) (by simp) ?_
      refine AllReadyH.cons rfl (fun K hK => ?_) AllReadyH.nil
      refine step_lookup rfl (.tmp 17) (.tmp 18) rfl (b := b) (key := .agg #[.int .i64 x0, .int .i64 x1, .int .i64 x2, .int .i64 x3]) (by simp [Act.eval]) (by simp [Act.eval]) HLK.out ?_
      refine hK.out _ _ (by assumption) (fun hHeld5 => ?_)
      clear hK K
      try simp only [Act.put, List.getElem_toArray, List.getElem_cons_zero, List.getElem_cons_succ, List.setIfInBounds_toArray, List.set_cons_zero, List.set_cons_succ]
      refine wpAnyH_take (i := 5) (v := ?_) rfl (by kernel_rfl) (by kernel_rfl) (by kernel_rfl) (fun _ _ _ h => h) (Or.inl ⟨by rfl, ?yr6⟩) (by assumption) ?qr6
      case yr6 => (intro wz hSw; (try dsimp only at hSw); go_simp <;> with_reducible rfl)
      try simp only [Act.put, List.getElem_toArray, List.getElem_cons_zero, List.getElem_cons_succ, List.setIfInBounds_toArray, List.set_cons_zero, List.set_cons_succ]
      refine wpAnyH_ready (rs := [6]) (by kernel_rfl) (by simp) ?_
      refine AllReadyH.cons rfl (fun K hK => ?_) AllReadyH.nil
      go_simp
      obtain ⟨Z, hZ⟩ : ∃ Z, Z = Y.alloc (.cells #[.int .i64 x0, .int .i64 x1, .int .i64 x2, .int .i64 x3, .int .i64 cv] 34) := ⟨_, rfl⟩
      have HLI : Hid (Hvys 0 Z (.slice (some ⟨Y.heap.size, 0, none⟩) 1 1) [⟨x0, x1, x2, x3, cv⟩] ∧ Aft Y Z) := Lib.hid (by rw [hZ]; exact ⟨hvy_lit ⟨x0, x1, x2, x3, cv⟩ Y, Aft.one _⟩)
      rw [← hZ]
      clear hZ
      refine hK.out _ _ (HCX.out _ HLI.out.2) (fun hHeld7 => ?_)
      clear hK K
      try simp only [Act.put, List.getElem_toArray, List.getElem_cons_zero, List.getElem_cons_succ, List.setIfInBounds_toArray, List.set_cons_zero, List.set_cons_succ]
      refine wpAnyH_ready (rs := [7]) (by kernel_rfl) (by simp) ?_
      refine AllReadyH.cons rfl (fun K hK => ?_) AllReadyH.nil
      refine step_append_hvys rfl (.tmp 15) (.tmp 21) rfl (B := w3.heap.size) (Nat.le_trans HO.out.2 HLI.out.2.size) (HO.out.1.below HLI.out.2) (by simp [Act.eval]) HLI.out.1 (by simp [Act.eval]) (by have := HLEN.out.1; simp only [List.length_cons, List.length_nil]; omega) ?_
      intro v5 w5 h5 hg5 _
      have HQ := Lib.hid (HFIN.out Z HLI.out.2 v5 w5 h5 hg5)
      clear h5 hg5
      refine hK.out _ _ (HQ.out.2) (fun hHeld8 => ?_)
      clear hK K
      try simp only [Act.put, List.getElem_toArray, List.getElem_cons_zero, List.getElem_cons_succ, List.setIfInBounds_toArray, List.set_cons_zero, List.set_cons_succ]
      refine wpAnyH_take (i := 8) (v := ?_) rfl (by kernel_rfl) (by kernel_rfl) (by kernel_rfl) (fun _ _ _ h => h) (Or.inl ⟨by rfl, ?yr9⟩) (by assumption) ?qr9
      case yr9 => (intro wz hSw; (try dsimp only at hSw); go_simp <;> with_reducible rfl)
      try simp only [Act.put, List.getElem_toArray, List.getElem_cons_zero, List.getElem_cons_succ, List.setIfInBounds_toArray, List.set_cons_zero, List.set_cons_succ]
      refine wpAnyH_done (by kernel_rfl) ?_ _
      go_wp2_with fail
      go_roundw
      case rel => exact ⟨k + 1, by go_num, by omega, _, rfl, Lib.hid HQ.out.1⟩
      case measure => simp [intOf]; omega
    · have hke : k = kn := by omega
      have HF : Hid (Post (.returned v) wA) := Lib.hid (by
        obtain ⟨h1, _, h3, _⟩ := HW.out
        rw [hke, HKL.out, List.take_length] at h1
        exact HE.out v _ wA HL.out (by rw [List.length_map]; exact HKN.out) (ownsRow_less h1 HA3.out.size) h3)
      clear HW hke
      go_wp2_with fail
      exact HF.out
end Go.Proofs.Ytfdaekppheabeaa.Dg
namespace Go.Proofs.Ytfdaekppheabeaa.Dg
open Go.ChangeShapes Go.WideShapes Go.ChangeAt Go.RowKit Base F Tx Hi Off
theorem findT_id : ∀ {xs : List Txn} {id : Int} {t : Txn}, findT xs id = some t → t.id = id
  | x :: l, id, t, h => by
    unfold findT at h
    split at h
    · rename_i he
      injection h with h
      rw [← h]; exact he
    · exact findT_id h
/-- An edge with a reason has numbers of 64 bits. -/
theorem cnt_ok {h : Hist} (hs : HistSm h) {P : Int → Bool} {e : Edg} (hc : cntE h P e ≠ 0) : Edg.ok e := by
  obtain ⟨a, b, ha, hb, _, _, _⟩ := cnt_ends hc
  obtain ⟨t, ht, o, ho, hk⟩ := cnt_keyop hc
  have h1 : i64 e.f := by rw [← findT_id ha]; exact (hs.txs a (findT_mem ha)).1
  have h2 : i64 e.t := by rw [← findT_id hb]; exact (hs.txs b (findT_mem hb)).1
  have h3 : i64 e.k := by
    rw [← hk]
    have := (hs.txs t ht).2 o ho
    unfold Opr.ok at this
    unfold i64
    omega
  have h4 : i64 e.kd := by
    obtain ⟨_, h5⟩ := cnt_some hc
    unfold i64
    rcases h5 with ⟨h5, _⟩ | ⟨t, _, o, _, _, _, ⟨_, rfl⟩ | ⟨z, _, _, rfl⟩⟩
    · omega
    · simp [wrE]
    · simp [rwE]
  exact ⟨h1, h2, h4, h3⟩
def NBd (h : Hist) (n : Nat) : Prop := n ≤ 1000 * h.ords.length + 200 * h.txs.length
theorem HvP.mono {c : Edg → Nat} {n m : Nat} {w w2 : World} {e : Ending} {w' : World} (h : HvP c n w2 e w') (hn : n ≤ m) (ha : Aft w w2) : HvP c m w e w' := by
  obtain ⟨v, l, he, h1, h2, h3, h4⟩ := h
  exact ⟨v, l, he, h1, by omega, ownsRow_less h3 ha.size, ha.trans h4⟩
theorem hvP_aft {c : Edg → Nat} {n : Nat} {w : World} {e : Ending} {w' : World} (h : HvP c n w e w') : Aft w w' := by
  obtain ⟨v, l, he, h1, h2, h3, h4⟩ := h
  exact h4
theorem hvP_ret {c : Edg → Nat} {n : Nat} {w : World} {e : Ending} {w' : World} (h : HvP c n w e w') : ∃ v, e = .returned v ∧ HvP c n w (.returned v) w' := by
  obtain ⟨v, l, he, h1⟩ := h
  exact ⟨v, he, v, l, rfl, h1⟩
theorem all_any (k : Int) (w : World) : Calls Try.prog 16 #[.int .i64 k] w (BoolNew true w) := by
  go_enter Try.func16, Try.ntmps16
  go_wp2
  go_ret
  exact ⟨rfl, Aft.refl _⟩
set_option maxRecDepth 100000 in
set_option maxHeartbeats 4000000 in
theorem edges_any {v u : Value} {h : Hist} (w : World) (hh : HistV w v u h) (hs : HistSm h) (ho : h.ords.length ≤ 500) : Calls Try.prog 8 #[.agg #[v, u]] w (HvP (cntE h fun _ => true) 1000000 w) := by
  obtain ⟨p, c, hv, _⟩ := hh.1.form
  obtain ⟨q, d, hu, _⟩ := hh.2.form
  subst hv hu
  obtain ⟨X, hX⟩ : ∃ X, X = w.alloc (.cells #[.slice p h.txs.length c, .slice q h.ords.length d] 25) := ⟨_, rfl⟩
  have HA : Hid (Aft w X) := Lib.hid (by rw [hX]; exact Aft.one _)
  have e0 : X.heap[w.heap.size]? = some (.cells #[.slice p h.txs.length c, .slice q h.ords.length d] 25) := by rw [hX]; exact heap_alloc_at _ _ _ rfl
  have c0 : X.cell? ⟨w.heap.size, 0, none⟩ = some (.slice p h.txs.length c) := by simp [World.cell?, e0]
  have c1 : X.cell? ⟨w.heap.size, 1, none⟩ = some (.slice q h.ords.length d) := by simp [World.cell?, e0]
  have hl := heap_lt e0
  have HC := Lib.hid (count_any X (hh.below HA.out) hs (fun _ => true) (fv := .func (.func 16) #[] #[]) rfl (enters_of Try.func16 (by kernel_rfl) rfl) (fun Y k _ => all_any k Y))
  have HL : Hid (∀ W b n, NBd h n → ME W b n (fun e => ((cntE h (fun _ => true) e : Nat) : Int)) → Calls Try.prog 14 #[.map (some b)] W (HvP (cntE h fun _ => true) n W)) := Lib.hid fun W b n hn hm => listed_any W hm (by have := hs.num; unfold NBd at hn; omega) (fun e he => cnt_ok hs he)
  have HE : Hid (∀ W n e W', NBd h n → Aft X W → HvP (cntE h fun _ => true) n W e W' → HvP (cntE h fun _ => true) 1000000 w e W') := Lib.hid fun W n e W' hn hW hp => hp.mono (by have := hs.num; unfold NBd at hn; omega) (HA.out.trans hW)
  generalize HvP (cntE h fun _ => true) 1000000 w = Post at HE ⊢
  generalize h.txs.length = n1 at *
  generalize h.ords.length = n2 at *
  clear hh hs ho e0
  go_enter Try.func8, Try.ntmps8
  go_wp2_with fail
  rw [← hX]
  clear hX
  go_wp2_with fail
  refine HC.out.mono ?_
  rintro e w2 ⟨b, n, rfl, hn, hm, ha⟩
  have HL2 := Lib.hid (HL.out w2 b n hn hm)
  have HE2 := Lib.hid (HE.out w2 n)
  have HN := Lib.hid (And.intro hn ha)
  clear hn hm ha HL HC HE c0 c1 hl
  go_wp2_with fail
  refine HL2.out.mono ?_
  rintro e w3 hp
  obtain ⟨r, he, hp⟩ := hvP_ret hp
  subst he
  have HP := Lib.hid (HE2.out _ _ HN.out.1 HN.out.2 hp)
  clear hp HL2 HE2
  go_wp2_with fail
  exact HP.out
end Go.Proofs.Ytfdaekppheabeaa.Dg
namespace Go.Proofs.Ytfdaekppheabeaa.Dg
open Go.ChangeShapes Go.WideShapes Go.ChangeAt Go.RowKit Base F Tx Hi Off
def SH2 : Hist := ⟨SH.txs, []⟩
theorem SH2_sm : HistSm SH2 := ⟨SH_sm.txs, (fun o ho => by cases ho), SH_sm.num, SH_sm.ops, (fun o ho => by cases ho)⟩
def L3 : List Hvy := [⟨1, 2, 1, 5, 1⟩, ⟨1, 2, 2, 5, 1⟩, ⟨3, 1, 3, 5, 2⟩]
def E3 : List Pk.E := [(1, 2, 1, 5), (1, 2, 2, 5), (3, 1, 3, 5)]
theorem nx_SH {P : Int → Bool} (hP : P 5 = true) {a k z : Int} (h : nxH P SH.ords (a, k) = some z) : (a = 1 ∧ k = 5 ∧ z = 2) ∨ (a = 0 ∧ k = 5 ∧ z = 1) := by
  have h1 : nxH P SH.ords = setF (setF (fun _ => none) (0, 5) 1) (1, 5) 2 := by
    unfold nxH SH
    simp only [List.foldl_cons, List.foldl_nil]
    unfold nxO
    rw [if_pos hP]
    rfl
  rw [h1] at h
  unfold setF at h
  split at h
  · rename_i e
    injection e with e1 e2
    injection h with h
    exact .inl ⟨e1, e2, h.symm⟩
  · split at h
    · rename_i e
      injection e with e1 e2
      injection h with h
      exact .inr ⟨e1, e2, h.symm⟩
    · cases h
theorem SH_cnt {e : Edg} (h : cntE SH (fun _ => true) e ≠ 0) : toE e ∈ E3 := by
  obtain ⟨hr, h1⟩ := cnt_some h
  unfold E3 toE
  rcases h1 with ⟨hk, h0, hn⟩ | ⟨t, ht, o, ho, hrd, hok, h2⟩
  · rcases nx_SH rfl hn with ⟨a, b, c⟩ | ⟨a, _, _⟩
    · rw [hk, a, b, c]; simp
    · exact absurd a h0
  · obtain ⟨_, hr1, _, _, _⟩ := rdC_iff.1 hrd
    simp only [SH, List.mem_cons, List.not_mem_nil, or_false] at ht
    rcases ht with rfl | rfl | rfl
    · simp only [List.mem_cons, List.not_mem_nil, or_false] at ho
      subst ho
      cases hr1
    · simp only [List.mem_cons, List.not_mem_nil, or_false] at ho
      rcases ho with rfl | rfl
      · cases hr1
      · rcases h2 with ⟨_, rfl⟩ | ⟨z, hz, hzi, rfl⟩
        · simp [wrE]
        · rcases nx_SH rfl hz with ⟨_, _, c⟩ | ⟨a, _, _⟩
          · exact absurd c hzi
          · exact absurd a (by decide)
    · simp only [List.mem_cons, List.not_mem_nil, or_false, or_self] at ho
      subst ho
      rcases h2 with ⟨h0, _⟩ | ⟨z, hz, hzi, rfl⟩
      · exact absurd rfl h0
      · rcases nx_SH rfl hz with ⟨a, _, _⟩ | ⟨_, _, c⟩
        · exact absurd a (by decide)
        · subst c
          simp [rwE]
theorem SH_lists : Lists (cntE SH fun _ => true) L3 := by
  refine ⟨E3, by decide, fun x => ⟨fun hx => ?_, fun hx => SH_cnt hx⟩, ?_⟩
  · unfold E3 at hx
    simp only [List.mem_cons, List.not_mem_nil, or_false] at hx
    rcases hx with rfl | rfl | rfl <;> decide +kernel
  · kernel_rfl
theorem hist2 {W : World} {v u : Value} (h : HistV W v u SH) : HistV W v (.slice none 0 0) SH2 := ⟨h.1, ⟨⟨none, 0, rfl, Nat.le_refl _, fun _ => rfl, by simp [SH2]⟩, fun k hk => absurd hk (by simp [SH2])⟩⟩
theorem ret_list {c : Edg → Nat} {n : Nat} {l : List Hvy} {f : FuncId} {args : Array Value} {w : World} (h : Calls Try.prog f args w (HvP c n w)) (hl : Lists c l) (hn : n ≤ 1000000) : Calls Try.prog f args w (fun e w' => ∃ v, e = .returned v ∧ Hvys 0 w' v l ∧ Aft w w') :=
  h.mono fun e w' ⟨v, l', he, h1, h2, h3, h4⟩ => ⟨v, he, by rw [← h1.one hl]; exact (h3.list (by omega)).mono (Nat.zero_le _), h4⟩
theorem ret_len {c : Edg → Nat} {n : Nat} {f : FuncId} {args : Array Value} {w : World} (h : Calls Try.prog f args w (HvP c n w)) (hl : Lists c []) (hn : n ≤ 1000000) : Calls Try.prog f args w (fun e w' => ∃ p c, e = .returned (.slice p 0 c) ∧ Aft w w') :=
  (ret_list h hl hn).mono fun e w' ⟨v, he, h1, h2⟩ => by
    obtain ⟨p, c, hv, _⟩ := h1.open_
    exact ⟨p, c, by rw [he, hv]; rfl, h2⟩
theorem edges_at {w : World} {v u : Value} (hh : HistV w v u SH) : Calls Try.prog 8 #[.agg #[v, u]] w (fun e w' => ∃ v, e = .returned v ∧ Hvys 0 w' v L3 ∧ Aft w w') := ret_list (edges_any w hh SH_sm (by decide)) SH_lists (Nat.le_refl _)
theorem edges2_len {w : World} {v u : Value} (hh : HistV w v u SH2) : Calls Try.prog 8 #[.agg #[v, u]] w (fun e w' => ∃ p c, e = .returned (.slice p 0 c) ∧ Aft w w') :=
  ret_len (edges_any w hh SH2_sm (by decide)) ⟨[], by simp, fun x => by rw [cntE_wrong (by decide +kernel)]; simp, rfl⟩ (Nat.le_refl _)
theorem aft_drewN (w : World) (q : Nat) : Aft w (w.drewN q) := below_drewN (Below.refl _ _) q
theorem hvys_lit {W : World} {g : Nat} (h : W.heap[g]? = some (.cells #[.int .i64 1, .int .i64 2, .int .i64 1, .int .i64 5, .int .i64 1, .int .i64 1, .int .i64 2, .int .i64 2, .int .i64 5, .int .i64 1, .int .i64 3, .int .i64 1, .int .i64 3, .int .i64 5, .int .i64 2] 34)) : Hvys 0 W (.slice (some ⟨g, 0, none⟩) 3 3) L3 := by
  refine .inr ⟨g, 0, 3, rfl, Nat.zero_le _, heap_lt h, by decide, fun k hk => ?_⟩
  have hk : k < 3 := hk
  match k, hk with
  | 0, _ => simp [World.cell?, h, L3]
  | 1, _ => simp [World.cell?, h, L3]
  | 2, _ => simp [World.cell?, h, L3]
theorem eds_lit {W : World} {g : Nat} (h : W.heap[g]? = some (.cells #[.int .i64 1, .int .i64 2, .int .i64 1, .int .i64 5, .int .i64 1, .int .i64 2, .int .i64 2, .int .i64 5, .int .i64 3, .int .i64 1, .int .i64 3, .int .i64 5] 32)) : Pk.Eds W (.slice (some ⟨g, 0, none⟩) 3 3) E3 := by
  refine .inr ⟨g, 0, 3, rfl, heap_lt h, by decide, fun k hk => ?_⟩
  have hk : k < 3 := hk
  match k, hk with
  | 0, _ => simp [World.cell?, h, E3]
  | 1, _ => simp [World.cell?, h, E3]
  | 2, _ => simp [World.cell?, h, E3]
end Go.Proofs.Ytfdaekppheabeaa.Dg
