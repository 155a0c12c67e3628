/-
  The law of TopTogether. Not a statement of the seat.
-/
import Derived.Test.YtpbkclciipmonaaTtBeg
import Derived.Test.YtpbkclciipmonaaTgSt
import Derived.Test.YtpbkclciipmonaaLstSame
import Derived.Test.YtpbkclciipmonaaHead1
import Derived.Test.YtpbkclciipmonaaPmRef3
import Derived.Test.YtpbkclciipmonaaHead6
namespace Go.Proofs.Ytpbkclciipmonaa.F
open Go.ChangeShapes Go.WideShapes Go.ChangeAt Go.RowKit Base
theorem joinT {α β γ : Type} {P : Prop} (J : α → β → γ → Prop) (G : α → β → γ → Prop) (h1 : (∀ x y u, J x y u → G x y u) → P) (h2 : ∀ x y u, J x y u → G x y u) : P := h1 h2
def boxPr (d : Pai) : Obj := .cells #[.int .i64 d.k, .int .i64 d.v] 56
theorem cellsPr {w : World} {g : Nat} {d : Pai} (h : w.heap[g]? = some (boxPr d)) : g < w.heap.size ∧ w.cell? ⟨g, 0, none⟩ = some (.int .i64 d.k) ∧ w.cell? ⟨g, 1, none⟩ = some (.int .i64 d.v) := by
  refine ⟨heap_lt h, ?_⟩
  unfold boxPr at h
  simp [World.cell?, h]
theorem wp_alloc_seq {o : Oper} {a : Act} {w : World} {K : Act → World → Prop} {Q : Exit → Act → World → Prop} (ho : o.op = .alloc 27)
    (h : ∀ g w', g = w.heap.size → w' = w.alloc (boxS (.pointer none) 0) → K (a.put o.dst (.pointer (some ⟨g, 0, none⟩))) w') : o.wp Try.prog a w K Q := by
  obtain ⟨dst, op, type, pos, after, guard⟩ := o
  simp only at ho
  subst ho
  go_simp
  exact h _ _ rfl rfl
theorem sameP_yes {b1 b2 : Nat} {v u : Value} {l : List Pai} {w : World} (ha : Pais b1 w v l) (hb : Pais b2 w u l) (hl : l.length ≤ 100000) : Calls Try.prog 26 #[v, u] w fun e w' => e = .returned (.bool true) ∧ Below w.heap.size w w' :=
  (same_ref v u l l w ha hb hl).mono fun _ _ ⟨h, n, h2⟩ => ⟨by rw [h, (sameL_iff l l).2 rfl], by rw [h2]; exact below_drewN (Below.refl _ _) n⟩
theorem sameI_yes {b1 b2 : Nat} {v u : Value} {xs : List Int} {w : World} (hx : Lst.Ints b1 w v xs) (hy : Lst.Ints b2 w u xs) : Calls Try.prog 16 #[v, u] w fun e w' => e = .returned (.bool true) ∧ Below w.heap.size w w' :=
  (Lst.sameInts_yes hx hy).mono fun _ _ ⟨h, n, h2⟩ => ⟨h, by rw [h2]; exact below_drewN (Below.refl _ _) n⟩
section
variable {w0 W W' : World} {pa : Option Addr} {o : Option Nat} {room : Nat} {zs : List Cel} {bs : List (Nat × Obj)} {vl : Value} {xs : List Int}
theorem tg_keep {bq b9 : Nat} {rs : Int} {d : Pai} (h : GG w0 W pa o room zs bs vl xs) (h1 : (bq, boxS (.pointer pa) rs) ∈ bs) (h2 : (b9, boxPr d) ∈ bs) : W.cell? ⟨bq, 0, none⟩ = some (.pointer pa) ∧ W.cell? ⟨bq, 1, none⟩ = some (.int .i64 rs) ∧ W.cell? ⟨b9, 1, none⟩ = some (.int .i64 d.v) :=
  ⟨(cellsS (h.1.2.2 _ h1).1).2.1, (cellsS (h.1.2.2 _ h1).1).2.2, (cellsPr (h.1.2.2 _ h2).1).2.2⟩
theorem tg_keep2 {b10 b12 : Nat} {rm rs : Int} (h : GG w0 W pa o room zs bs vl xs) (h1 : (b10, boxM (.pointer pa) rm) ∈ bs) (h2 : (b12, boxS (.pointer pa) rs) ∈ bs) : W.cell? ⟨b10, 0, none⟩ = some (.pointer pa) ∧ W.cell? ⟨b10, 1, none⟩ = some (.int .i64 rm) ∧ W.cell? ⟨b12, 0, none⟩ = some (.pointer pa) ∧ W.cell? ⟨b12, 1, none⟩ = some (.int .i64 rs) :=
  ⟨(cellsM (h.1.2.2 _ h1).1).2.1, (cellsM (h.1.2.2 _ h1).1).2.2, (cellsS (h.1.2.2 _ h2).1).2.1, (cellsS (h.1.2.2 _ h2).1).2.2⟩
theorem tg_fresh {g : Nat} (h : GG w0 W pa o room zs bs vl xs) (hg : g = W.heap.size) : (∀ q ∈ bs, q.1 < g) ∧ w0.heap.size ≤ g := by
  subst hg
  exact ⟨fun q hq => heap_lt (h.1.2.2 q hq).1, h.1.1.2.1.size⟩
theorem tg_res {n : Nat} {T : Tre} {zs' : List Cel} {root' why : Int} (hM : MRes (PutP zs n T) (room < zs.length + n) zs zs' root' why) (hz : zs.length + n ≤ room) : why = 0 ∧ (∃ new, zs' = zs ++ new) ∧ zs'.length ≤ zs.length + n ∧ Tr zs' T root' := by
  rcases hM with ⟨h0, ⟨new, he, hn⟩, ht⟩ | ⟨_, _, _, h⟩
  · exact ⟨h0, ⟨new, he⟩, by rw [he, List.length_append]; omega, ht⟩
  · omega
theorem tg_mres {n : Nat} {T : Tre} {zs' : List Cel} {root' why : Int} (hM : MRes (MoveP zs n T) (room < zs.length + n) zs zs' root' why) (hz : zs.length + n ≤ room) : why = 0 ∧ (∃ new, zs' = zs ++ new) ∧ zs'.length = zs.length + n ∧ Tr zs' T root' := by
  rcases hM with ⟨h0, ⟨new, he, hn⟩, ht⟩ | ⟨_, _, _, h⟩
  · exact ⟨h0, ⟨new, he⟩, by rw [he, List.length_append]; omega, ht⟩
  · omega
end
theorem tkv_snoc {xs : List Pai} {i : Nat} (h : i < xs.length) : (xs.take (i + 1)).map Pai.v = (xs.take i).map Pai.v ++ [(xs.getD i Pai.zero).v] := by
  rw [List.take_add_one, List.getElem?_eq_getElem h, List.getD_eq_getElem?_getD, List.getElem?_eq_getElem h, List.map_append]; rfl
/-- Between two rounds. -/
def TG (w0 W : World) (pa : Option Addr) (bm bq : Nat) (P : List Pai) (i : Nat) (vp vl : Value) : Prop :=
  ∃ (o : Option Nat) (zs : List Cel) (rm rs : Int) (Tm Ts : Tre) (es : List (Nat × Obj)), GG w0 W pa o 65536 zs ((bm, boxM (.pointer pa) rm) :: (bq, boxS (.pointer pa) rs) :: es) vl ((P.take i).map Pai.v) ∧ Tr zs Tm rm ∧ SortL Tm.list ∧ Tm.size ≤ i ∧ LV es vp Tm.list ∧ Tr zs Ts rs ∧ K0 Ts ∧ Ts.vals = (P.take i).map Pai.v ∧ zs.length ≤ 400 * i ∧ bm ≠ bq ∧ (∀ q ∈ es, q.1 ≠ bm ∧ q.1 ≠ bq) ∧ w0.heap.size ≤ bm ∧ w0.heap.size ≤ bq
set_option maxRecDepth 100000 in
set_option maxHeartbeats 16000000 in
theorem together (p : Option Addr) (c : Nat) (P : List Pai) (w : World) (hx : Pais 0 w (.slice p P.length c) P) (hok : ∀ x ∈ P, Pai.ok x) :
    Calls Try.prog 5 #[.slice p P.length c] w fun e w' => e = .returned (.bool true) ∧ Below w.heap.size w w' := by
  obtain ⟨p9, c9, hvv, hl1, hc⟩ := hx.open_
  have hpe : p9 = p := by injection hvv with e; exact e.symm
  subst hpe
  have HC := Lib.hid hc
  have HOK : Hid (∀ k, k < P.length → (P.getD k Pai.zero).ok) := Lib.hid fun k hk => hok _ (by rw [List.getD_eq_getElem?_getD, List.getElem?_eq_getElem hk]; exact List.getElem_mem hk)
  have HOV : Hid (∀ x ∈ P.map Pai.v, -9223372036854775808 ≤ x ∧ x ≤ 9223372036854775807) := Lib.hid fun x hx => by
    obtain ⟨y, hy, rfl⟩ := List.mem_map.1 hx
    exact (hok y hy).2
  clear hx hok hc hvv
  by_cases hl : 60 < P.length
  · have hl' : (60 : Int) < (P.length : Int) := by omega
    clear HC HOK
    go_enter Try.func5, Try.ntmps5
    go_wp2_with fail
    refine (begins w).mono ?_
    rintro e w1 ⟨rfl, hb⟩
    go_wp2_with fail
    go_ret
    exact ⟨rfl, hb⟩
  have hl' : ¬ (60 : Int) < (P.length : Int) := by omega
  have HL : Hid (P.length ≤ 60) := Lib.hid (by omega)
  clear hl hl1
  go_enter Try.func5, Try.ntmps5
  go_wp2_with fail
  refine (begins w).mono ?_
  rintro e w1 ⟨rfl, hb⟩
  have HB := Lib.hid hb
  clear hb
  go_wp2_with fail
  refine (arnew_any 65536 w1).mono ?_
  rintro e w2 ⟨rfl, hA, hb⟩
  rw [show roomOf 65536 = 65536 by unfold roomOf; omega] at hA
  obtain ⟨pa, hpa⟩ : ∃ pa, pa = some (⟨w1.heap.size, 0, none⟩ : Addr) := ⟨_, rfl⟩
  have P0 : Hid (PS w w2 (.pointer pa) none 65536 [] (.slice none 0 0) [] []) := Lib.hid (by rw [hpa]; exact ⟨AI.new hA (HB.out.trans (hb.mono HB.out.size)) HB.out.size, QS.nil _ _ _, fun p hp => by cases hp⟩)
  clear hA hb
  go_wp2_with fail
  rw [← hpa]
  clear hpa
  refine (pmnew P0.out.1.1).mono ?_
  rintro e w3 ⟨rfl, hb⟩
  have P1 := Lib.hid (P0.out.below hb)
  clear hb P0
  go_wp2_with fail
  refine (psnew P1.out.1.1).mono ?_
  rintro e w4 ⟨rfl, hb⟩
  obtain ⟨bm, hbm⟩ : ∃ b, b = w4.heap.size := ⟨_, rfl⟩
  have HG0 : Hid (GG w w4 pa none 65536 [] [] (.slice none 0 0) []) := Lib.hid ⟨P1.out.below hb, Lst.OwnI.nil _ _, fun g hg => by cases hg⟩
  have HG1 := Lib.hid ((HG0.out.addAt (boxM (.pointer pa) 0) hbm).addAt (g := bm + 1) (boxS (.pointer pa) 0) (by simp [hbm]))
  have HT0 : Hid (TG w ((w4.alloc (boxM (.pointer pa) 0)).alloc (boxS (.pointer pa) 0)) pa bm (bm + 1) P 0 (.slice none 0 0) (.slice none 0 0)) :=
    Lib.hid ⟨none, [], 0, 0, .nil, .nil, [], HG1.out.drop (by intro q hq; simp only [List.mem_cons] at hq ⊢; rcases hq with h | h | h <;> simp [h]), rfl, by simp [Tre.list, SortL], by simp [Tre.size], .inl ⟨rfl, none, 0, rfl, fun _ => rfl⟩, rfl, trivial, rfl, by simp, by omega, (fun q hq => by cases hq), by rw [hbm]; exact HG0.out.1.1.2.1.size, by rw [hbm]; exact Nat.le_succ_of_le HG0.out.1.1.2.1.size⟩
  clear hb P1 HG0 HG1
  obtain ⟨bq, hbq⟩ : ∃ b, b = bm + 1 := ⟨_, rfl⟩
  rw [← hbq] at HT0
  unfold boxM boxS at HT0
  go_wp2_with fail
  rw [← hbm, ← hbq]
  clear hbm hbq
  go_loopw [6, 7, 31] (fun s6 s7 s31 wr => ∃ (i : Nat) (vp vl : Value), s31 = .int .i64 (i : Int) ∧ vp = s6 ∧ vl = s7 ∧ i ≤ P.length ∧ Hid (TG w wr pa bm bq P i vp vl)) (fun _ _ s31 _ => P.length - (intOf s31).toNat)
  case atStart => exact ⟨0, _, _, rfl, rfl, rfl, Nat.zero_le _, HT0⟩
  case round =>
    clear HT0
    obtain ⟨i, vp, vl, rfl, hvp, hvl, hi, HTG⟩ := hrel
    subst hvp hvl
    by_cases hlt : i < P.length
    · obtain ⟨o, zs, rm, rs, Tm, Ts, es, hG, hTm, hSo, hSz, hLV, hTs, hK0, hVs, hz, hne, hes, h0m, h0q⟩ := HTG.out
      obtain ⟨g, off, hp', _, hgl, c0, c1⟩ := HC.out i hlt
      have c0 := (hG.1.1.2.1.cell (p := ⟨g, _, none⟩) hgl).trans c0
      have c1 := (hG.1.1.2.1.cell (p := ⟨g, _, none⟩) hgl).trans c1
      have hgl := Nat.lt_of_lt_of_le hgl hG.1.1.2.1.size
      have HDK := Lib.hid (HOK.out i hlt)
      have HTK := Lib.hid (tkv_snoc hlt)
      subst hp'
      generalize P.getD i Pai.zero = d at c0 c1 HDK HTK
      obtain ⟨xs, hxs⟩ : ∃ xs, xs = (P.take i).map Pai.v := ⟨_, rfl⟩
      have hxl : xs.length = i := by rw [hxs, List.length_map, List.length_take]; omega
      rw [← hxs] at hG hVs HTK
      have hszS : Ts.size = i := by rw [← Tre.vals_len, hVs, hxl]
      have hhi := Tm.high_le_size
      have hhi2 := Ts.high_le_size
      obtain ⟨b9, hb9⟩ : ∃ b, b = wr.heap.size := ⟨_, rfl⟩
      have P1 := Lib.hid (hG.addAt (boxPr d) hb9)
      have HLT : Hid (∀ q ∈ (bm, boxM (.pointer pa) rm) :: (bq, boxS (.pointer pa) rs) :: es, q.1 < b9) := Lib.hid fun q hq => hb9 ▸ heap_lt (hG.1.2.2 q hq).1
      have HNE : Hid (bm ≠ bq ∧ (∀ q ∈ es, q.1 ≠ bm ∧ q.1 ≠ bq) ∧ w.heap.size ≤ bm ∧ w.heap.size ≤ bq) := Lib.hid ⟨hne, hes, h0m, h0q⟩
      have HTM : Hid (Tr zs Tm rm ∧ SortL Tm.list ∧ Tm.size ≤ i ∧ LV es vp Tm.list ∧ Tm.high ≤ i) := Lib.hid ⟨hTm, hSo, hSz, hLV, by omega⟩
      have HT2 : Hid (Tr zs Ts rs ∧ K0 Ts ∧ Ts.vals = xs ∧ Ts.size = i ∧ Ts.high ≤ i ∧ zs.length ≤ 400 * i ∧ i < P.length ∧ xs.length = i) := Lib.hid ⟨hTs, hK0, hVs, hszS, by omega, hz, hlt, hxl⟩
      obtain ⟨hbml, m0, m1⟩ := cellsM (hG.1.2.2 (bm, boxM (.pointer pa) rm) (by simp)).1
      clear hG hTm hSo hSz hLV hTs hK0 hVs hz hne hes h0m h0q hxl hszS hhi hhi2 hxs HTG
      have hltI : (i : Int) < (P.length : Int) := by omega
      obtain ⟨W1, hW1⟩ : ∃ W1, W1 = wr.alloc (boxPr d) := ⟨_, rfl⟩
      rw [← hW1] at P1
      unfold boxPr at hW1
      have n0 : W1.cell? ⟨bm, 0, none⟩ = some (.pointer pa) := (cellsM (P1.out.1.2.2 (bm, boxM (.pointer pa) rm) (by simp)).1).2.1
      have n1 : W1.cell? ⟨bm, 1, none⟩ = some (.int .i64 rm) := (cellsM (P1.out.1.2.2 (bm, boxM (.pointer pa) rm) (by simp)).1).2.2
      go_wp2_with fail
      rw [← hW1, ← hb9]
      clear hW1 hb9 c0 c1 hgl m0 m1
      refine (pmput d HDK.out P1.out.1.1.1 (t := Tm) (root := rm) HTM.out.1 (by have := HTM.out.2.2.1; have := HL.out; omega)).mono ?_
      intro e w5 hp
      obtain ⟨rm2, why1, zs2, hs, hM⟩ := hp.step
      obtain ⟨rfl, o2, P2⟩ := P1.out.step hs
      have HI1 := Lib.hid (tg_res hM.out (by have := HTM.out.2.2.2.2; have := HT2.out.2.2.2.2.2; have := HL.out; omega))
      obtain rfl : why1 = 0 := HI1.out.1
      obtain ⟨b10, hb10⟩ : ∃ b, b = w5.heap.size := ⟨_, rfl⟩
      have H910 : Hid (b9 < b10) := Lib.hid (hb10 ▸ heap_lt (P2.out.1.2.2 (b9, boxPr d) (by simp)).1)
      obtain ⟨W4, hW4⟩ : ∃ W4, W4 = w5.alloc (boxM (.pointer pa) rm2) := ⟨_, rfl⟩
      have P4 : Hid (GG w W4.drew pa o2 65536 zs2 ((b10, boxM (.pointer pa) rm2) :: (b9, boxPr d) :: (bm, boxM (.pointer pa) rm) :: (bq, boxS (.pointer pa) rs) :: es) vl xs) := Lib.hid (by rw [hW4]; exact (P2.out.addAt (boxM (.pointer pa) rm2) hb10).below (below_drewN (Below.refl _ _) 1))
      have HTS : Hid (Tr zs2 Ts rs ∧ K0 Ts ∧ Ts.vals = xs ∧ Ts.size = i ∧ Ts.high ≤ i ∧ zs2.length + (3 * Ts.high + 1) ≤ 65536 ∧ zs2.length ≤ 400 * i + 181 ∧ xs.length = i) := Lib.hid (by
        obtain ⟨h1, h2, h3, h4, h5, h6, h7, h8⟩ := HT2.out
        obtain ⟨_, ⟨new, he⟩, hln, _⟩ := HI1.out
        have := HTM.out.2.2.2.2
        have := HL.out
        exact ⟨by rw [he]; exact h1.append _, h2, h3, h4, h5, by omega, by omega, h8⟩)
      clear hp hs hM P1 P2 n0 n1 hbml
      unfold boxM at hW4
      go_upto_region 13 with fail
      rw [← hb10, ← hW4]
      clear hb10 hW4
      refine joinT (fun (b12 : Nat) (rs2 : Int) (u : World) => ∃ (o4 : Option Nat) (zs4 : List Cel), GG w u pa o4 65536 zs4 ((b12, boxS (.pointer pa) rs2) :: (b10, boxM (.pointer pa) rm2) :: (b9, boxPr d) :: (bm, boxM (.pointer pa) rm) :: (bq, boxS (.pointer pa) rs) :: es) vl xs ∧ b10 < b12 ∧ (∃ new, zs4 = zs2 ++ new) ∧ zs4.length ≤ zs2.length + (3 * Ts.high + 1) ∧ Tr zs4 (Tre.insAt Ts.size d.v Ts) rs2) ?GJ (fun HJ => ?fork) ?rest
      case fork =>
        refine wp_region_held_drew (S := (fun X => X.cell? ⟨bq, 0, none⟩ = some (.pointer pa) ∧ X.cell? ⟨bq, 1, none⟩ = some (.int .i64 rs) ∧ X.cell? ⟨b9, 1, none⟩ = some (.int .i64 d.v))) (by as_aux_lemma => kernel_rfl) (tg_keep P4.out (by simp) (by simp)) (fun hHeld0 => ?_)
        refine wpAnyH_take (i := 0) (v := ?_) rfl (by as_aux_lemma => kernel_rfl) (by as_aux_lemma => kernel_rfl) (by as_aux_lemma => kernel_rfl) (fun _ _ _ h => h) (Or.inl ⟨by as_aux_lemma => rfl, ?yr1⟩) (by assumption) ?qr1
        case yr1 => (intro wz hSw; (try dsimp only at hSw); go_simp <;> with_reducible rfl)
        try simp only [Act.put, List.getElem_toArray, List.getElem_cons_zero, List.setIfInBounds_toArray, List.set_cons_zero, List.set_cons_succ]
        refine wpAnyH_take (i := 1) (v := ?_) rfl (by as_aux_lemma => kernel_rfl) (by as_aux_lemma => kernel_rfl) (by as_aux_lemma => kernel_rfl) (fun _ _ _ h => h) (Or.inl ⟨by as_aux_lemma => rfl, ?yr2⟩) (by assumption) ?qr2
        case yr2 => (intro wz hSw; (try dsimp only at hSw); go_simp <;> with_reducible rfl)
        try simp only [Act.put, List.getElem_toArray, List.getElem_cons_zero, List.getElem_cons_succ, List.setIfInBounds_toArray, List.set_cons_zero, List.set_cons_succ]
        refine wpAnyH_take (i := 3) (v := ?_) rfl (by as_aux_lemma => kernel_rfl) (by as_aux_lemma => kernel_rfl) (by as_aux_lemma => kernel_rfl) (fun _ _ _ h => h) (Or.inl ⟨by as_aux_lemma => rfl, ?yr3⟩) (by assumption) ?qr3
        case yr3 => (intro wz hSw; (try dsimp only at hSw); go_simp <;> with_reducible rfl)
        try simp only [Act.put, List.getElem_toArray, List.getElem_cons_zero, List.getElem_cons_succ, List.setIfInBounds_toArray, List.set_cons_zero, List.set_cons_succ]
        refine wpAnyH_take (i := 4) (v := ?_) rfl (by as_aux_lemma => kernel_rfl) (by as_aux_lemma => kernel_rfl) (by as_aux_lemma => kernel_rfl) (fun _ _ _ h => h) (Or.inl ⟨by as_aux_lemma => rfl, ?yr4⟩) (by assumption) ?qr4
        case yr4 => (intro wz hSw; (try dsimp only at hSw); go_simp <;> with_reducible rfl)
        try simp only [Act.put, List.getElem_toArray, List.getElem_cons_zero, List.getElem_cons_succ, List.setIfInBounds_toArray, List.set_cons_zero, List.set_cons_succ]
        refine wpAnyH_ready (rs := [2, 9]) (by as_aux_lemma => kernel_rfl) (by simp) ?_
        refine AllReadyH.cons rfl (fun K hK => ?br5) ?cr5
        case br5 =>
          go_simp
          refine (pslen P4.out.1.1.1 HTS.out.1).mono ?_
          rintro e u5 ⟨he, hb⟩
          subst he
          have G5 := Lib.hid (P4.out.below hb)
          clear hb
          refine hK.out _ _ (tg_keep G5.out (by simp) (by simp)) (fun hHeld5 => ?_)
          clear hK K
          try simp only [Act.put, List.getElem_toArray, List.getElem_cons_zero, List.getElem_cons_succ, List.setIfInBounds_toArray, List.set_cons_zero, List.set_cons_succ]
          refine wpAnyH_ready (rs := [5, 9]) (by as_aux_lemma => kernel_rfl) (by simp) ?_
          refine AllReadyH.cons rfl (fun K hK => ?br6) ?cr6
          case br6 =>
            go_simp
            refine (psinsert Ts.size d.v HDK.out.2 G5.out.1.1.1 HTS.out.1 HTS.out.2.1 (by have := HTS.out.2.2.2.1; have := HL.out; omega) (Nat.le_refl _)).mono ?_
            intro e u6 hp
            obtain ⟨rs2, why2, zs4, hs, hM⟩ := hp.step
            obtain ⟨rfl, o4, G6⟩ := G5.out.step hs
            have HI2 := Lib.hid (tg_res hM.out HTS.out.2.2.2.2.2.1)
            obtain rfl : why2 = 0 := HI2.out.1
            clear hp hs hM G5
            refine hK.out _ _ (tg_keep G6.out (by simp) (by simp)) (fun hHeld6 => ?_)
            clear hK K
            try simp only [Act.put, List.getElem_toArray, List.getElem_cons_zero, List.getElem_cons_succ, List.setIfInBounds_toArray, List.set_cons_zero, List.set_cons_succ]
            refine wpAnyH_take (i := 6) (v := ?_) rfl (by as_aux_lemma => kernel_rfl) (by as_aux_lemma => kernel_rfl) (by as_aux_lemma => kernel_rfl) (fun _ _ _ h => h) (Or.inl ⟨by as_aux_lemma => rfl, ?yr7⟩) (by assumption) ?qr7
            case yr7 => (intro wz hSw; (try dsimp only at hSw); go_simp <;> with_reducible rfl)
            try simp only [Act.put, List.getElem_toArray, List.getElem_cons_zero, List.getElem_cons_succ, List.setIfInBounds_toArray, List.set_cons_zero, List.set_cons_succ]
            refine wpAnyH_take (i := 7) (v := ?_) rfl (by as_aux_lemma => kernel_rfl) (by as_aux_lemma => kernel_rfl) (by as_aux_lemma => kernel_rfl) (fun _ _ _ h => h) (Or.inl ⟨by as_aux_lemma => rfl, ?yr8⟩) (by assumption) ?qr8
            case yr8 => (intro wz hSw; (try dsimp only at hSw); go_simp <;> with_reducible rfl)
            try simp only [Act.put, List.getElem_toArray, List.getElem_cons_zero, List.getElem_cons_succ, List.setIfInBounds_toArray, List.set_cons_zero, List.set_cons_succ]
            refine wpAnyH_take (i := 8) (v := ?_) rfl (by as_aux_lemma => kernel_rfl) (by as_aux_lemma => kernel_rfl) (by as_aux_lemma => kernel_rfl) (fun _ _ _ h => h) (Or.inl ⟨by as_aux_lemma => rfl, ?yr9⟩) (by assumption) ?qr9
            case yr9 => (intro wz hSw; (try dsimp only at hSw); go_simp <;> with_reducible rfl)
            try simp only [Act.put, List.getElem_toArray, List.getElem_cons_zero, List.getElem_cons_succ, List.setIfInBounds_toArray, List.set_cons_zero, List.set_cons_succ]
            refine wpAnyH_ready (rs := [9]) (by as_aux_lemma => kernel_rfl) (by simp) ?_
            refine AllReadyH.cons rfl (fun K hK => ?_) AllReadyH.nil
            rw [if_pos (by rfl)]
            refine wp_alloc_seq rfl ?_
            intro b12 u10 hb12 hu
            have G10 : Hid (GG _ u10 pa _ 65536 _ ((b12, boxS (.pointer none) 0) :: ((b10, boxM (.pointer pa) rm2) :: (b9, boxPr d) :: (bm, boxM (.pointer pa) rm) :: (bq, boxS (.pointer pa) rs) :: es)) vl xs) := Lib.hid (by rw [hu]; exact G6.out.addAt _ hb12)
            have HB12 := Lib.hid (tg_fresh G6.out hb12)
            clear hu hb12 G6
            refine hK.out _ _ (tg_keep G10.out (by simp) (by simp)) (fun hHeld10 => ?_)
            clear hK K
            try simp only [Act.put, List.getElem_toArray, List.getElem_cons_zero, List.getElem_cons_succ, List.setIfInBounds_toArray, List.set_cons_zero, List.set_cons_succ]
            refine wpAnyH_ready (rs := [10]) (by as_aux_lemma => kernel_rfl) (by simp) ?_
            refine AllReadyH.cons rfl (fun K hK => ?_) AllReadyH.nil
            refine wp_store_seq (.tmp 12) (.tmp 51) rfl b12 pa none rs2 0 rfl rfl (G10.out.1.2.2 (b12, boxS (.pointer none) 0) (by simp)).1 ?_
            intro u11 hst
            have G11 := Lib.hid (G10.out.store (fun q hq e => by have := HB12.out.1 q hq; omega) HB12.out.2 hst)
            clear hst G10
            refine hK.out _ _ (tg_keep G11.out (by simp) (by simp)) (fun hHeld11 => ?_)
            clear hK K
            try simp only [Act.put, List.getElem_toArray, List.getElem_cons_zero, List.getElem_cons_succ]
            refine wpAnyH_take (i := 11) (v := ?_) rfl (by as_aux_lemma => kernel_rfl) (by as_aux_lemma => kernel_rfl) (by as_aux_lemma => kernel_rfl) (fun _ _ _ h => h) (Or.inl ⟨by as_aux_lemma => rfl, ?yr12⟩) (by assumption) ?qr12
            case yr12 => (intro wz hSw; (try dsimp only at hSw); go_simp <;> with_reducible rfl)
            try simp only [Act.put, List.getElem_toArray, List.getElem_cons_zero, List.getElem_cons_succ, List.setIfInBounds_toArray, List.set_cons_zero, List.set_cons_succ]
            refine wpAnyH_done (by as_aux_lemma => kernel_rfl) ?_ _
            exact HJ b12 rs2 _ ⟨_, _, G11.out, HB12.out.1 (b10, boxM (.pointer pa) rm2) (by simp), HI2.out.2⟩
          refine AllReadyH.cons rfl (fun K hK => ?br13) ?cr13
          case br13 =>
            rw [if_pos (by rfl)]
            refine wp_alloc_seq rfl ?_
            intro b12 u13 hb12 hu
            have G13 : Hid (GG _ u13 pa _ 65536 _ ((b12, boxS (.pointer none) 0) :: ((b10, boxM (.pointer pa) rm2) :: (b9, boxPr d) :: (bm, boxM (.pointer pa) rm) :: (bq, boxS (.pointer pa) rs) :: es)) vl xs) := Lib.hid (by rw [hu]; exact G5.out.addAt _ hb12)
            have HB12 := Lib.hid (tg_fresh G5.out hb12)
            clear hu hb12 G5
            refine hK.out _ _ (tg_keep G13.out (by simp) (by simp)) (fun hHeld13 => ?_)
            clear hK K
            try simp only [Act.put, List.getElem_toArray, List.getElem_cons_zero, List.getElem_cons_succ, List.setIfInBounds_toArray, List.set_cons_zero, List.set_cons_succ]
            refine wpAnyH_ready (rs := [5]) (by as_aux_lemma => kernel_rfl) (by simp) ?_
            refine AllReadyH.cons rfl (fun K hK => ?_) AllReadyH.nil
            go_simp
            refine (psinsert Ts.size d.v HDK.out.2 G13.out.1.1.1 HTS.out.1 HTS.out.2.1 (by have := HTS.out.2.2.2.1; have := HL.out; omega) (Nat.le_refl _)).mono ?_
            intro e u14 hp
            obtain ⟨rs2, why2, zs4, hs, hM⟩ := hp.step
            obtain ⟨rfl, o4, G14⟩ := G13.out.step hs
            have HI2 := Lib.hid (tg_res hM.out HTS.out.2.2.2.2.2.1)
            obtain rfl : why2 = 0 := HI2.out.1
            clear hp hs hM G13
            refine hK.out _ _ (tg_keep G14.out (by simp) (by simp)) (fun hHeld14 => ?_)
            clear hK K
            try simp only [Act.put, List.getElem_toArray, List.getElem_cons_zero, List.getElem_cons_succ, List.setIfInBounds_toArray, List.set_cons_zero, List.set_cons_succ]
            refine wpAnyH_take (i := 6) (v := ?_) rfl (by as_aux_lemma => kernel_rfl) (by as_aux_lemma => kernel_rfl) (by as_aux_lemma => kernel_rfl) (fun _ _ _ h => h) (Or.inl ⟨by as_aux_lemma => rfl, ?yr15⟩) (by assumption) ?qr15
            case yr15 => (intro wz hSw; (try dsimp only at hSw); go_simp <;> with_reducible rfl)
            try simp only [Act.put, List.getElem_toArray, List.getElem_cons_zero, List.getElem_cons_succ, List.setIfInBounds_toArray, List.set_cons_zero, List.set_cons_succ]
            refine wpAnyH_take (i := 7) (v := ?_) rfl (by as_aux_lemma => kernel_rfl) (by as_aux_lemma => kernel_rfl) (by as_aux_lemma => kernel_rfl) (fun _ _ _ h => h) (Or.inl ⟨by as_aux_lemma => rfl, ?yr16⟩) (by assumption) ?qr16
            case yr16 => (intro wz hSw; (try dsimp only at hSw); go_simp <;> with_reducible rfl)
            try simp only [Act.put, List.getElem_toArray, List.getElem_cons_zero, List.getElem_cons_succ, List.setIfInBounds_toArray, List.set_cons_zero, List.set_cons_succ]
            refine wpAnyH_take (i := 8) (v := ?_) rfl (by as_aux_lemma => kernel_rfl) (by as_aux_lemma => kernel_rfl) (by as_aux_lemma => kernel_rfl) (fun _ _ _ h => h) (Or.inl ⟨by as_aux_lemma => rfl, ?yr17⟩) (by assumption) ?qr17
            case yr17 => (intro wz hSw; (try dsimp only at hSw); go_simp <;> with_reducible rfl)
            try simp only [Act.put, List.getElem_toArray, List.getElem_cons_zero, List.getElem_cons_succ, List.setIfInBounds_toArray, List.set_cons_zero, List.set_cons_succ]
            refine wpAnyH_ready (rs := [10]) (by as_aux_lemma => kernel_rfl) (by simp) ?_
            refine AllReadyH.cons rfl (fun K hK => ?_) AllReadyH.nil
            refine wp_store_seq (.tmp 12) (.tmp 51) rfl b12 pa none rs2 0 rfl rfl (G14.out.1.2.2 (b12, boxS (.pointer none) 0) (by simp)).1 ?_
            intro u18 hst
            have G18 := Lib.hid (G14.out.store (fun q hq e => by have := HB12.out.1 q hq; omega) HB12.out.2 hst)
            clear hst G14
            refine hK.out _ _ (tg_keep G18.out (by simp) (by simp)) (fun hHeld18 => ?_)
            clear hK K
            try simp only [Act.put, List.getElem_toArray, List.getElem_cons_zero, List.getElem_cons_succ]
            refine wpAnyH_take (i := 11) (v := ?_) rfl (by as_aux_lemma => kernel_rfl) (by as_aux_lemma => kernel_rfl) (by as_aux_lemma => kernel_rfl) (fun _ _ _ h => h) (Or.inl ⟨by as_aux_lemma => rfl, ?yr19⟩) (by assumption) ?qr19
            case yr19 => (intro wz hSw; (try dsimp only at hSw); go_simp <;> with_reducible rfl)
            try simp only [Act.put, List.getElem_toArray, List.getElem_cons_zero, List.getElem_cons_succ, List.setIfInBounds_toArray, List.set_cons_zero, List.set_cons_succ]
            refine wpAnyH_done (by as_aux_lemma => kernel_rfl) ?_ _
            exact HJ b12 rs2 _ ⟨_, _, G18.out, HB12.out.1 (b10, boxM (.pointer pa) rm2) (by simp), HI2.out.2⟩
          exact AllReadyH.nil
        refine AllReadyH.cons rfl (fun K hK => ?br20) ?cr20
        case br20 =>
          rw [if_pos (by rfl)]
          refine wp_alloc_seq rfl ?_
          intro b12 u20 hb12 hu
          have G20 : Hid (GG _ u20 pa _ 65536 _ ((b12, boxS (.pointer none) 0) :: ((b10, boxM (.pointer pa) rm2) :: (b9, boxPr d) :: (bm, boxM (.pointer pa) rm) :: (bq, boxS (.pointer pa) rs) :: es)) vl xs) := Lib.hid (by rw [hu]; exact P4.out.addAt _ hb12)
          have HB12 := Lib.hid (tg_fresh P4.out hb12)
          clear hu hb12
          refine hK.out _ _ (tg_keep G20.out (by simp) (by simp)) (fun hHeld20 => ?_)
          clear hK K
          try simp only [Act.put, List.getElem_toArray, List.getElem_cons_zero, List.getElem_cons_succ, List.setIfInBounds_toArray, List.set_cons_zero, List.set_cons_succ]
          refine wpAnyH_ready (rs := [2]) (by as_aux_lemma => kernel_rfl) (by simp) ?_
          refine AllReadyH.cons rfl (fun K hK => ?_) AllReadyH.nil
          go_simp
          refine (pslen G20.out.1.1.1 HTS.out.1).mono ?_
          rintro e u21 ⟨he, hb⟩
          subst he
          have G21 := Lib.hid (G20.out.below hb)
          clear hb G20
          refine hK.out _ _ (tg_keep G21.out (by simp) (by simp)) (fun hHeld21 => ?_)
          clear hK K
          try simp only [Act.put, List.getElem_toArray, List.getElem_cons_zero, List.getElem_cons_succ, List.setIfInBounds_toArray, List.set_cons_zero, List.set_cons_succ]
          refine wpAnyH_ready (rs := [5]) (by as_aux_lemma => kernel_rfl) (by simp) ?_
          refine AllReadyH.cons rfl (fun K hK => ?_) AllReadyH.nil
          go_simp
          refine (psinsert Ts.size d.v HDK.out.2 G21.out.1.1.1 HTS.out.1 HTS.out.2.1 (by have := HTS.out.2.2.2.1; have := HL.out; omega) (Nat.le_refl _)).mono ?_
          intro e u22 hp
          obtain ⟨rs2, why2, zs4, hs, hM⟩ := hp.step
          obtain ⟨rfl, o4, G22⟩ := G21.out.step hs
          have HI2 := Lib.hid (tg_res hM.out HTS.out.2.2.2.2.2.1)
          obtain rfl : why2 = 0 := HI2.out.1
          clear hp hs hM G21
          refine hK.out _ _ (tg_keep G22.out (by simp) (by simp)) (fun hHeld22 => ?_)
          clear hK K
          try simp only [Act.put, List.getElem_toArray, List.getElem_cons_zero, List.getElem_cons_succ, List.setIfInBounds_toArray, List.set_cons_zero, List.set_cons_succ]
          refine wpAnyH_take (i := 6) (v := ?_) rfl (by as_aux_lemma => kernel_rfl) (by as_aux_lemma => kernel_rfl) (by as_aux_lemma => kernel_rfl) (fun _ _ _ h => h) (Or.inl ⟨by as_aux_lemma => rfl, ?yr23⟩) (by assumption) ?qr23
          case yr23 => (intro wz hSw; (try dsimp only at hSw); go_simp <;> with_reducible rfl)
          try simp only [Act.put, List.getElem_toArray, List.getElem_cons_zero, List.getElem_cons_succ, List.setIfInBounds_toArray, List.set_cons_zero, List.set_cons_succ]
          refine wpAnyH_take (i := 7) (v := ?_) rfl (by as_aux_lemma => kernel_rfl) (by as_aux_lemma => kernel_rfl) (by as_aux_lemma => kernel_rfl) (fun _ _ _ h => h) (Or.inl ⟨by as_aux_lemma => rfl, ?yr24⟩) (by assumption) ?qr24
          case yr24 => (intro wz hSw; (try dsimp only at hSw); go_simp <;> with_reducible rfl)
          try simp only [Act.put, List.getElem_toArray, List.getElem_cons_zero, List.getElem_cons_succ, List.setIfInBounds_toArray, List.set_cons_zero, List.set_cons_succ]
          refine wpAnyH_take (i := 8) (v := ?_) rfl (by as_aux_lemma => kernel_rfl) (by as_aux_lemma => kernel_rfl) (by as_aux_lemma => kernel_rfl) (fun _ _ _ h => h) (Or.inl ⟨by as_aux_lemma => rfl, ?yr25⟩) (by assumption) ?qr25
          case yr25 => (intro wz hSw; (try dsimp only at hSw); go_simp <;> with_reducible rfl)
          try simp only [Act.put, List.getElem_toArray, List.getElem_cons_zero, List.getElem_cons_succ, List.setIfInBounds_toArray, List.set_cons_zero, List.set_cons_succ]
          refine wpAnyH_ready (rs := [10]) (by as_aux_lemma => kernel_rfl) (by simp) ?_
          refine AllReadyH.cons rfl (fun K hK => ?_) AllReadyH.nil
          refine wp_store_seq (.tmp 12) (.tmp 51) rfl b12 pa none rs2 0 rfl rfl (G22.out.1.2.2 (b12, boxS (.pointer none) 0) (by simp)).1 ?_
          intro u26 hst
          have G26 := Lib.hid (G22.out.store (fun q hq e => by have := HB12.out.1 q hq; omega) HB12.out.2 hst)
          clear hst G22
          refine hK.out _ _ (tg_keep G26.out (by simp) (by simp)) (fun hHeld26 => ?_)
          clear hK K
          try simp only [Act.put, List.getElem_toArray, List.getElem_cons_zero, List.getElem_cons_succ]
          refine wpAnyH_take (i := 11) (v := ?_) rfl (by as_aux_lemma => kernel_rfl) (by as_aux_lemma => kernel_rfl) (by as_aux_lemma => kernel_rfl) (fun _ _ _ h => h) (Or.inl ⟨by as_aux_lemma => rfl, ?yr27⟩) (by assumption) ?qr27
          case yr27 => (intro wz hSw; (try dsimp only at hSw); go_simp <;> with_reducible rfl)
          try simp only [Act.put, List.getElem_toArray, List.getElem_cons_zero, List.getElem_cons_succ, List.setIfInBounds_toArray, List.set_cons_zero, List.set_cons_succ]
          refine wpAnyH_done (by as_aux_lemma => kernel_rfl) ?_ _
          exact HJ b12 rs2 _ ⟨_, _, G26.out, HB12.out.1 (b10, boxM (.pointer pa) rm2) (by simp), HI2.out.2⟩
        exact AllReadyH.nil
      case rest =>
        rintro b12 rs2 u7 ⟨o4, zs4, hG, hlt12, hnew, hlen, htr⟩
        have P7 := Lib.hid hG
        have HI2 := Lib.hid (And.intro hlt12 (And.intro hnew (And.intro hlen htr)))
        clear hG hlt12 hnew hlen htr P4
        have HN : Hid (b9 < b10 ∧ b10 < b12 ∧ bm < b9 ∧ bq < b9 ∧ bm ≠ bq ∧ ∀ q ∈ es, q.1 ≠ bm ∧ q.1 ≠ bq) := Lib.hid ⟨H910.out, HI2.out.1, HLT.out (bm, boxM (.pointer pa) rm) (by simp), HLT.out (bq, boxS (.pointer pa) rs) (by simp), HNE.out.1, HNE.out.2.1⟩
        have HD1 : Hid (∀ q ∈ (b12, boxS (.pointer pa) rs2) :: (b10, boxM (.pointer pa) rm2) :: (b9, boxPr d) :: (bq, boxS (.pointer pa) rs) :: es, q.1 ≠ bm) := Lib.hid fun q hq => by
          have := HN.out
          simp only [List.mem_cons] at hq
          rcases hq with rfl | rfl | rfl | rfl | hq
          · simp only; omega
          · simp only; omega
          · simp only; omega
          · simp only; omega
          · exact (this.2.2.2.2.2 q hq).1
        have HD2 : Hid (∀ q ∈ (bm, boxM (.pointer pa) rm2) :: (b12, boxS (.pointer pa) rs2) :: (b10, boxM (.pointer pa) rm2) :: (b9, boxPr d) :: es, q.1 ≠ bq) := Lib.hid fun q hq => by
          have := HN.out
          simp only [List.mem_cons] at hq
          rcases hq with rfl | rfl | rfl | rfl | hq
          · simp only; omega
          · simp only; omega
          · simp only; omega
          · simp only; omega
          · exact (this.2.2.2.2.2 q hq).2
        have P8 := Lib.hid ((P7.out.drop (bs' := (bm, boxM (.pointer pa) rm) :: (b12, boxS (.pointer pa) rs2) :: (b10, boxM (.pointer pa) rm2) :: (b9, boxPr d) :: (bq, boxS (.pointer pa) rs) :: es) (by intro q hq; simp only [List.mem_cons] at hq ⊢; rcases hq with h | h | h | h | h | h <;> simp [h])).below (below_drewN (Below.refl _ _) 1))
        clear P7
        go_upto_region 16 with fail
        refine wp_region_held_drew (S := (fun X => X.cell? ⟨b10, 0, none⟩ = some (.pointer pa) ∧ X.cell? ⟨b10, 1, none⟩ = some (.int .i64 rm2) ∧ X.cell? ⟨b12, 0, none⟩ = some (.pointer pa) ∧ X.cell? ⟨b12, 1, none⟩ = some (.int .i64 rs2))) (by as_aux_lemma => kernel_rfl) (tg_keep2 P8.out (by simp) (by simp)) (fun hHeld0 => ?_)
        refine wpAnyH_take (i := 0) (v := ?_) rfl (by as_aux_lemma => kernel_rfl) (by as_aux_lemma => kernel_rfl) (by as_aux_lemma => kernel_rfl) (fun _ _ _ h => h) (Or.inl ⟨by as_aux_lemma => rfl, ?ys1⟩) (by assumption) ?qs1
        case ys1 => (intro wz hSw; (try dsimp only at hSw); go_simp <;> with_reducible rfl)
        try simp only [Act.put, List.getElem_toArray, List.getElem_cons_zero, List.setIfInBounds_toArray, List.set_cons_zero, List.set_cons_succ]
        refine wpAnyH_take (i := 1) (v := ?_) rfl (by as_aux_lemma => kernel_rfl) (by as_aux_lemma => kernel_rfl) (by as_aux_lemma => kernel_rfl) (fun _ _ _ h => h) (Or.inl ⟨by as_aux_lemma => rfl, ?ys2⟩) (by assumption) ?qs2
        case ys2 => (intro wz hSw; (try dsimp only at hSw); go_simp <;> with_reducible rfl)
        try simp only [Act.put, List.getElem_toArray, List.getElem_cons_zero, List.getElem_cons_succ, List.setIfInBounds_toArray, List.set_cons_zero, List.set_cons_succ]
        refine wpAnyH_ready (rs := [2]) (by as_aux_lemma => kernel_rfl) (by simp) ?_
        refine AllReadyH.cons rfl (fun K hK => ?_) AllReadyH.nil
        refine wp_store_map (.tmp 4) (.tmp 59) rfl bm pa pa rm2 rm rfl rfl (P8.out.1.2.2 (bm, boxM (.pointer pa) rm) (by simp)).1 ?_
        intro u19 hst
        have P9 := Lib.hid ((P8.out.store HD1.out HNE.out.2.2.1 hst).drop (bs' := (bq, boxS (.pointer pa) rs) :: (bm, boxM (.pointer pa) rm2) :: (b12, boxS (.pointer pa) rs2) :: (b10, boxM (.pointer pa) rm2) :: (b9, boxPr d) :: es) (by intro q hq; simp only [List.mem_cons] at hq ⊢; rcases hq with h | h | h | h | h | h <;> simp [h]))
        clear hst P8
        refine hK.out _ _ (tg_keep2 P9.out (by simp) (by simp)) (fun hHeld3 => ?_)
        clear hK K
        try simp only [Act.put, List.getElem_toArray, List.getElem_cons_zero, List.getElem_cons_succ]
        refine wpAnyH_ready (rs := [3]) (by as_aux_lemma => kernel_rfl) (by simp) ?_
        refine AllReadyH.cons rfl (fun K hK => ?_) AllReadyH.nil
        refine wp_store_seq (.tmp 5) (.tmp 60) rfl bq pa pa rs2 rs rfl rfl (P9.out.1.2.2 (bq, boxS (.pointer pa) rs) (by simp)).1 ?_
        intro u20 hst
        have G16 := Lib.hid (P9.out.store HD2.out HNE.out.2.2.2 hst)
        clear hst P9
        refine hK.out _ _ (tg_keep2 G16.out (by simp) (by simp)) (fun hHeld4 => ?_)
        clear hK K
        try simp only [Act.put, List.getElem_toArray, List.getElem_cons_zero, List.getElem_cons_succ]
        refine wpAnyH_done (by as_aux_lemma => kernel_rfl) ?_ _
        have P10 := Lib.hid (G16.out.drop (bs' := (b9, boxPr d) :: (bm, boxM (.pointer pa) rm2) :: (bq, boxS (.pointer pa) rs2) :: es) (by intro q hq; simp only [List.mem_cons] at hq ⊢; rcases hq with h | h | h | h <;> simp [h]))
        obtain ⟨_, n0, n1⟩ := cellsPr (P10.out.1.2.2 (b9, boxPr d) (by simp)).1
        clear G16 HD1 HD2
        go_wp2_with fail
        have HPT : Hid (Calls Try.prog 22 #[vp, .int .i64 d.k, .int .i64 d.v] u20 (PaiNew (Tre.ins d.k d.v Tm).list u20)) := Lib.hid (by
          rw [(link d.k d.v Tm HTM.out.2.1).1]
          exact put_ref _ _ _ _ _ (HTM.out.2.2.2.1.pais (fun q hq => (P10.out.1.2.2 q (by simp [hq])).1) (by rw [Tre.list_len]; have := HTM.out.2.2.1; have := HL.out; omega)) (by rw [Tre.list_len]; have := HTM.out.2.2.1; have := HL.out; omega))
        refine HPT.out.mono ?_
        rintro e u8 ⟨vp2, rfl, hop, hb⟩
        obtain ⟨nb, hG8, hLV8, hnb⟩ := P10.out.list hb hop
        have P11 := Lib.hid (hG8.drop (bs' := (b9, boxPr d) :: (bm, boxM (.pointer pa) rm2) :: (bq, boxS (.pointer pa) rs2) :: nb) (by intro q hq; simp only [List.mem_cons, List.mem_append] at hq ⊢; rcases hq with h | h | h | h <;> simp [h]))
        have HLV8 := Lib.hid hLV8
        have HNB : Hid (∀ q ∈ nb, q.1 ≠ bm ∧ q.1 ≠ bq) := Lib.hid fun q hq => by
          have h1 := hnb q hq
          have h2 := heap_lt (P10.out.1.2.2 (bm, boxM (.pointer pa) rm2) (by simp)).1
          have h3 := heap_lt (P10.out.1.2.2 (bq, boxS (.pointer pa) rs2) (by simp)).1
          simp only at h2 h3
          omega
        clear hop hb hG8 hLV8 hnb P10 HPT n0 n1
        obtain ⟨h9l, n0, n1⟩ := cellsPr (P11.out.1.2.2 (b9, boxPr d) (by simp)).1
        have P12 := Lib.hid (P11.out.below ((Below.refl _ _).alloc (Nat.le_refl _) (.cells #[.int .i64 d.v] 3)))
        have HRD : Hid (∀ (v5 : Value) (w6 : World), Lst.OwnI w.heap.size w6 v5 (xs ++ [d.v]) → (u8.alloc (.cells #[.int .i64 d.v] 3)).grownBy w6 vl.ownBlock → (v5.ownBlock = vl.ownBlock ∨ v5.ownBlock = some (u8.alloc (.cells #[.int .i64 d.v] 3)).heap.size) → TG w w6 pa bm bq P (i + 1) vp2 v5) := Lib.hid fun v5 w6 h5 hg5 hat5 => by
          have hG := (P12.out.app h5 hg5 hat5).drop (bs' := (bm, boxM (.pointer pa) rm2) :: (bq, boxS (.pointer pa) rs2) :: nb) (by intro q hq; simp only [List.mem_cons] at hq ⊢; rcases hq with h | h | h <;> simp [h])
          obtain ⟨_, ⟨nw, he⟩, hln, htr⟩ := HI2.out
          obtain ⟨t1, t2, t3, t4, t5, t6, t7, t8⟩ := HTS.out
          have hi1 := ins_size1 d.k d.v Tm
          refine ⟨o4, zs4, rm2, rs2, Tre.ins d.k d.v Tm, Tre.insAt Ts.size d.v Ts, nb, by rw [HTK.out]; exact hG, by rw [he]; exact HI1.out.2.2.2.append _, (link d.k d.v Tm HTM.out.2.1).2.1, by have := HTM.out.2.2.1; omega, HLV8.out, htr, k0_insAt _ _ t2, ?_, by have := HL.out; omega, HNE.out.1, HNB.out, HNE.out.2.2.1, HNE.out.2.2.2⟩
          rw [HTK.out, Tre.insAt_vals _ _ _ (Nat.le_refl _), t3, ← Tre.vals_len, t3]
          simp
        clear P11 HNB HLV8 HNE HLT H910 HN HI2 HI1
        go_wp2_with (at_builtin; refine Lst.append_ints rfl (.tmp 67) (.tmp 70) rfl (B := w.heap.size) P12.out.1.1.2.1.size P12.out.2.1 rfl (Lst.int_lit d.v _) (fun n c e => by cases e) rfl (by have := HTS.out.2.2.2.2.2.2.2; have := HL.out; simp; omega) ?_; intro v5 w6 h5 hg5 hat5; have HN := Lib.hid (HRD.out v5 w6 h5 hg5 hat5); clear h5 hg5 hat5 HRD P12)
        go_roundw
        case rel => exact ⟨i + 1, vp2, v5, by go_num, rfl, rfl, hlt, HN⟩
        case measure => simp [intOf]; omega
    · have hie : i = P.length := by omega
      subst hie
      obtain ⟨o, zs, rm, rs, Tm, Ts, es, hG, hTm, hSo, hSz, hLV, hTs, hK0, hVs, hz, hne, hes, h0m, h0q⟩ := HTG.out
      rw [List.take_length] at hG hVs
      obtain ⟨xs, hxs⟩ : ∃ xs, xs = P.map Pai.v := ⟨_, rfl⟩
      have hxl : xs.length = P.length := by rw [hxs, List.length_map]
      rw [← hxs] at hG hVs HOV
      have hszS : Ts.size = xs.length := by rw [← Tre.vals_len, hVs]
      have hszM : Tm.list.length = Tm.size := Tm.list_len
      obtain ⟨pp, cp, hvp⟩ := hLV.form
      obtain ⟨pl, cl, hvl⟩ : ∃ p c, vl = .slice p xs.length c := by
        rcases hG.2.1.form with ⟨h0, hv⟩ | ⟨g, cap, hv, _⟩
        · exact ⟨none, 0, by rw [hv, h0]; rfl⟩
        · exact ⟨_, _, hv⟩
      subst hvp hvl
      have HX : Hid (∀ X, Below wr.heap.size wr X → GG w X pa o 65536 zs ((bm, boxM (.pointer pa) rm) :: (bq, boxS (.pointer pa) rs) :: es) (.slice pl xs.length cl) xs) := Lib.hid fun X hX => hG.below hX
      have HF : Hid (Tr zs Tm rm ∧ LV es (.slice pp Tm.list.length cp) Tm.list ∧ Tr zs Ts rs ∧ Ts.vals = xs ∧ Tm.size ≤ 60 ∧ Ts.size ≤ 60 ∧ Tm.list.length = Tm.size ∧ xs.length = Ts.size) := Lib.hid ⟨hTm, hLV, hTs, hVs, by have := HL.out; omega, by have := HL.out; omega, hszM, by omega⟩
      obtain ⟨N, hN⟩ : ∃ N, N = Tm.size + Ts.size := ⟨_, rfl⟩
      have hw : IntKind.i64.wrap ((Tm.list.length : Int) + (xs.length : Int)) = (N : Int) := by rw [IntKind.wrap_i64]; have := HL.out; omega
      have HN : Hid (N = Tm.size + Ts.size ∧ N ≤ 120) := Lib.hid ⟨hN, by have := HL.out; omega⟩
      have HWZ : Hid (Below w.heap.size w wr) := Lib.hid hG.1.1.2.1
      clear HTG hG hTm hSo hSz hLV hTs hK0 hVs hz hne hes h0m h0q hxl hszS hxs hlt hi hl' HC HOK HL HB hN
      obtain ⟨n1, hn1⟩ : ∃ n, n = Tm.list.length := ⟨_, rfl⟩
      rw [← hn1] at HF hw ⊢
      clear hszM hn1
      obtain ⟨n2, hn2⟩ : ∃ n, n = xs.length := ⟨_, rfl⟩
      rw [← hn2] at HX HF hw ⊢
      have HN2 := Lib.hid hn2
      clear hn2
      have HLL : Hid (Tm.list.length ≤ 60 ∧ xs.length ≤ 60) := Lib.hid (by have h1 := HN2.out; have h2 := HF.out; have h3 : Tm.list.length = Tm.size := Tm.list_len; omega)
      have hw2 : wrap64 ((n1 : Int) + (n2 : Int)) = (N : Int) := by have h1 := HN2.out; have h2 := HF.out; have h3 := HN.out; rw [IntWalk.wrap64_in _ ⟨by omega, by omega⟩]; omega
      go_wp2_with fail
      refine (arnew_any (N : Int) wr).mono ?_
      rintro e w1 ⟨rfl, hA, hb⟩
      rw [show roomOf (N : Int) = N by have := HN.out; unfold roomOf; omega] at hA
      obtain ⟨pa2, hpa⟩ : ∃ pa2, pa2 = some (⟨wr.heap.size, 0, none⟩ : Addr) := ⟨_, rfl⟩
      have HA1 : Hid (ArV w1 (.pointer pa2) none N []) := Lib.hid (by rw [hpa]; exact ArV.of hA)
      have HV1 : Hid (∀ g, VF (.pointer pa2) none g → wr.heap.size ≤ g) := Lib.hid fun g k => by
        rcases k with k | k
        · rw [hpa] at k; injection k with k; injection k with k; injection k with k; omega
        · cases k
      have B1 := Lib.hid hb
      clear hA hb hw hw2
      obtain ⟨_, m0, m1⟩ := cellsM ((HX.out _ B1.out).1.2.2 (bm, boxM (.pointer pa) rm) (by simp)).1
      go_wp2_with fail
      rw [← hpa]
      clear hpa
      refine (pmmove (HX.out _ B1.out).1.1.1 HF.out.1 (by have := HF.out.2.2.2.2.1; omega) HA1.out).mono ?_
      rintro e w2 ⟨root2, why2, zs2, o2, rfl, hav, hmv, hfr, hM⟩
      have HM2 := Lib.hid (tg_mres hM (by have := HN.out; simp; omega))
      obtain rfl : why2 = 0 := HM2.out.1
      have B2 : Hid (Below wr.heap.size wr w2) := Lib.hid (B1.out.trans (fr_vf hfr HV1.out B1.out.size))
      have HV2 := Lib.hid (mv_vf hmv HV1.out B1.out.size)
      have HA2 := Lib.hid hav
      clear hav hmv hfr hM HA1 HV1 m0 m1 B1
      obtain ⟨b15, hb15⟩ : ∃ b, b = w2.heap.size := ⟨_, rfl⟩
      obtain ⟨W3, hW3⟩ : ∃ W3, W3 = w2.alloc (boxM (.pointer pa2) root2) := ⟨_, rfl⟩
      have HB23 : Hid (Below w2.heap.size w2 W3) := Lib.hid (by rw [hW3]; exact (Below.refl _ _).alloc (Nat.le_refl _) _)
      have H15 : Hid (W3.heap[b15]? = some (boxM (.pointer pa2) root2) ∧ b15 = w2.heap.size) := Lib.hid ⟨by rw [hW3, hb15]; exact heap_alloc_at _ _ _ rfl, hb15⟩
      have B3 : Hid (Below wr.heap.size wr W3) := Lib.hid (B2.out.trans (HB23.out.mono B2.out.size))
      obtain ⟨hlq, m0, m1⟩ := cellsS ((HX.out _ B2.out).1.2.2 (bq, boxS (.pointer pa) rs) (by simp)).1
      unfold boxM at hW3
      go_wp2_with fail
      rw [← hb15, ← hW3]
      clear hb15 hW3
      refine (psmove (HX.out _ B3.out).1.1.1 HF.out.2.2.1 (by have := HF.out.2.2.2.2.2.1; omega) (HA2.out.below HB23.out) (by rw [HF.out.2.2.2.1]; exact HOV.out)).mono ?_
      rintro e w4 ⟨root3, why3, zs3, o3, rfl, hav, hmv, hfr, hM⟩
      have HM3 := Lib.hid (tg_mres hM (by have h1 := HM2.out.2.2.1; have := HN.out; simp at h1; omega))
      obtain rfl : why3 = 0 := HM3.out.1
      have B4 : Hid (Below wr.heap.size wr w4) := Lib.hid (B3.out.trans (fr_vf hfr HV2.out B3.out.size))
      have HA4 := Lib.hid hav
      have H16 : Hid (w4.heap[b15]? = some (boxM (.pointer pa2) root2)) := Lib.hid ((hfr.block (heap_lt H15.out.1) (fun k => by have := HA2.out.lt _ k; have := H15.out.2; omega)).trans H15.out.1)
      clear hav hmv hfr hM HV2 m0 m1 hlq B3 HB23 H15 HA2
      obtain ⟨b17, hb17⟩ : ∃ b, b = w4.heap.size := ⟨_, rfl⟩
      obtain ⟨W5, hW5⟩ : ∃ W5, W5 = w4.alloc (boxS (.pointer pa2) root3) := ⟨_, rfl⟩
      have HB45 : Hid (Below w4.heap.size w4 W5) := Lib.hid (by rw [hW5]; exact (Below.refl _ _).alloc (Nat.le_refl _) _)
      have H17 : Hid (W5.heap[b17]? = some (boxS (.pointer pa2) root3)) := Lib.hid (by rw [hW5, hb17]; exact heap_alloc_at _ _ _ rfl)
      have HE : Hid (∀ X, Below W5.heap.size W5 X → GG w X pa o 65536 zs ((bm, boxM (.pointer pa) rm) :: (bq, boxS (.pointer pa) rs) :: es) (.slice pl n2 cl) xs ∧ ArV X (.pointer pa2) o3 N zs3 ∧ X.heap[b15]? = some (boxM (.pointer pa2) root2) ∧ X.heap[b17]? = some (boxS (.pointer pa2) root3) ∧ Below w.heap.size w X) := Lib.hid fun X hX => by
        have h4 : Below w4.heap.size w4 X := HB45.out.trans (hX.mono HB45.out.size)
        have hr : Below wr.heap.size wr X := B4.out.trans (h4.mono B4.out.size)
        exact ⟨HX.out _ hr, HA4.out.below h4, (h4.block _ (heap_lt H16.out)).trans H16.out, (hX.block _ (heap_lt H17.out)).trans H17.out, HWZ.out.trans (hr.mono HWZ.out.size)⟩
      have HT2 : Hid (Tr zs3 (mkT Tm.list) root2 ∧ (mkT Tm.list).list = Tm.list ∧ (mkT Tm.list).size ≤ 60 ∧ Tr zs3 (mkN Ts.vals) root3 ∧ (mkN Ts.vals).vals = xs ∧ (mkN Ts.vals).size ≤ 60 ∧ (N : Int) - (zs3.length : Int) = 0 ∧ n2 = xs.length ∧ xs.length ≤ 60) := Lib.hid (by
        obtain ⟨_, _, l2, t2⟩ := HM2.out
        obtain ⟨_, ⟨nw, he⟩, l3, t3⟩ := HM3.out
        obtain ⟨f1, f2, f3, f4, f5, f6, f7, f8⟩ := HF.out
        have hl : Tm.list.length = Tm.size := Tm.list_len
        have hv : Ts.vals.length = Ts.size := Ts.vals_len
        have := HN.out
        have := HN2.out
        refine ⟨by rw [he]; exact t2.append _, mkT_list _ _ rfl, by rw [mkT_size]; omega, t3, by rw [mkN_vals _ _ rfl, f4], by rw [mkN_size]; omega, by simp at l2; omega, HN2.out, by omega⟩)
      have B0 : Hid (Below W5.heap.size W5 W5) := Lib.hid (Below.refl _ _)
      clear HB45 H16 H17 HM2 HM3 HX HA4 HWZ B2 B4 HN HOV
      unfold boxS at hW5
      go_wp2_with fail
      rw [← hb17, ← hW5]
      clear hb17 hW5
      refine (arroom_v (HE.out _ B0.out).2.1).mono ?_
      rintro e u1 ⟨rfl, q1, hq1⟩
      rw [HT2.out.2.2.2.2.2.2.1]
      have B1 : Hid (Below W5.heap.size W5 u1) := Lib.hid (by rw [hq1]; exact below_drewN B0.out _)
      clear hq1
      obtain ⟨_, m0, m1⟩ := cellsM ((HE.out _ B1.out).1.1.2.2 (bm, boxM (.pointer pa) rm) (by simp)).1
      go_wp2_with fail
      refine (pmlist (HE.out _ B1.out).1.1.1.1 HF.out.1 (by have := HF.out.2.2.2.2.1; omega)).mono ?_
      rintro e u2 ⟨v2, rfl, hown, hb⟩
      have B2 : Hid (Below W5.heap.size W5 u2) := Lib.hid (B1.out.trans (hb.mono B1.out.size))
      have HO := Lib.hid hown
      clear hown hb m0 m1
      go_wp2_with fail
      refine (sameP_yes (HO.out.list (by have := HLL.out; omega)) (HF.out.2.1.pais (fun q hq => ((HE.out _ B2.out).1.1.2.2 q (by simp [hq])).1) (by have := HLL.out; omega)) (by have := HLL.out; omega)).mono ?_
      rintro e u3 ⟨rfl, hb⟩
      have B3 : Hid (Below W5.heap.size W5 u3) := Lib.hid (B2.out.trans (hb.mono B2.out.size))
      clear hb HO
      obtain ⟨_, m0, m1⟩ := cellsM (HE.out _ B3.out).2.2.1
      go_wp2_with fail
      refine (pmlist (HE.out _ B3.out).2.1 HT2.out.1 (by have := HT2.out.2.2.1; omega)).mono ?_
      rintro e u4 ⟨v4, rfl, hown, hb⟩
      have B4 : Hid (Below W5.heap.size W5 u4) := Lib.hid (B3.out.trans (hb.mono B3.out.size))
      have HO := Lib.hid hown
      clear hown hb m0 m1
      go_wp2_with fail
      refine (sameP_yes (by have h := HO.out; rw [HT2.out.2.1] at h; exact h.list (by have := HLL.out; omega)) (HF.out.2.1.pais (fun q hq => ((HE.out _ B4.out).1.1.2.2 q (by simp [hq])).1) (by have := HLL.out; omega)) (by have := HLL.out; omega)).mono ?_
      rintro e u5 ⟨rfl, hb⟩
      have B5 : Hid (Below W5.heap.size W5 u5) := Lib.hid (B4.out.trans (hb.mono B4.out.size))
      clear hb HO
      obtain ⟨_, m0, m1⟩ := cellsS ((HE.out _ B5.out).1.1.2.2 (bq, boxS (.pointer pa) rs) (by simp)).1
      go_wp2_with fail
      refine (pslist (HE.out _ B5.out).1.1.1.1 HF.out.2.2.1 (by have := HF.out.2.2.2.2.2.1; omega)).mono ?_
      rintro e u6 ⟨v6, rfl, hown, hb⟩
      have B6 : Hid (Below W5.heap.size W5 u6) := Lib.hid (B5.out.trans (hb.mono B5.out.size))
      have HO := Lib.hid hown
      clear hown hb m0 m1
      go_wp2_with fail
      refine (sameI_yes (by have h := HO.out; rw [HF.out.2.2.2.1] at h; exact h.ints (by have := HLL.out; omega)) ((HE.out _ B6.out).1.2.1.ints (by have := HLL.out; omega))).mono ?_
      rintro e u7 ⟨rfl, hb⟩
      have B7 : Hid (Below W5.heap.size W5 u7) := Lib.hid (B6.out.trans (hb.mono B6.out.size))
      clear hb HO
      obtain ⟨_, m0, m1⟩ := cellsS (HE.out _ B7.out).2.2.2.1
      go_wp2_with fail
      refine (pslist (HE.out _ B7.out).2.1 HT2.out.2.2.2.1 (by have := HT2.out.2.2.2.2.2.1; omega)).mono ?_
      rintro e u8 ⟨v8, rfl, hown, hb⟩
      have B8 : Hid (Below W5.heap.size W5 u8) := Lib.hid (B7.out.trans (hb.mono B7.out.size))
      have HO := Lib.hid hown
      clear hown hb m0 m1
      go_wp2_with fail
      refine (sameI_yes (by have h := HO.out; rw [HT2.out.2.2.2.2.1] at h; exact h.ints (by have := HLL.out; omega)) ((HE.out _ B8.out).1.2.1.ints (by have := HLL.out; omega))).mono ?_
      rintro e u9 ⟨rfl, hb⟩
      have B9 : Hid (Below W5.heap.size W5 u9) := Lib.hid (B8.out.trans (hb.mono B8.out.size))
      clear hb HO
      go_wp2_with fail
      go_ret
      exact ⟨rfl, (HE.out _ B9.out).2.2.2.2⟩
end Go.Proofs.Ytpbkclciipmonaa.F
