/-
  Contracts of maps in an arena: Del, Move. Not a statement of the seat.
-/
import Derived.Test.YtpmimngngehmlaaPmFin
namespace Go.Proofs.Ytpmimngngehmlaa.F
open Go.ChangeShapes Go.WideShapes Go.ChangeAt Go.RowKit Base
theorem look_has (key : Int) (t : Tre) : (t.look key).2 = t.has key := by
  induction t with
  | nil => rfl
  | node l k v r h1 h2 =>
    simp only [Tre.look, Tre.has]
    split
    · exact h1
    · split
      · exact h2
      · rfl
set_option maxHeartbeats 8000000 in
set_option maxRecDepth 100000 in
theorem pmdel {pv : Value} {o : Option Nat} {room : Nat} {zs : List Cel} {w : World} {t : Tre} {root : Int} (key : Int) (h : ArV w pv o room zs) (ht : Tr zs t root) (hsz : t.size ≤ 500000) (hk : t.has key = true) :
    Calls Try.prog 19 #[.agg #[pv, .int .i64 root], .int .i64 key] w (MP pv o room zs (PutP zs (3 * t.high) (Tre.del key t)) (room < zs.length + 3 * t.high) w) := by
  obtain ⟨a, rfl⟩ := h.ptr
  have hb0 : Below w.heap.size w ((w.alloc (boxM (.pointer a) root)).alloc (boxM (.pointer none) 0)) := ((Below.refl _ _).alloc (Nat.le_refl _) _).alloc (by simp) _
  have HA := Lib.hid h
  have HB0 := Lib.hid hb0
  have HG : Hid (Calls Try.prog 59 #[.agg #[.pointer a, .int .i64 root], .int .i64 key] ((w.alloc (boxM (.pointer a) root)).alloc (boxM (.pointer none) 0)) (IntBoolM (t.look key).1 true ((w.alloc (boxM (.pointer a) root)).alloc (boxM (.pointer none) 0)))) := Lib.hid (by
    have := pmget key (h.below hb0) ht
    rwa [look_has, hk] at this)
  have HM := Lib.hid (fun (X : World) (hX : Below w.heap.size w X) => pmbuild root (h.below hX))
  have HW := Lib.hid fun (B : Nat) (X : World) (hX : BI X B (.pointer a) o root (zs.length : Int) room zs 0) => bwithout key t X o zs root hX ht hsz hk
  generalize Tre.del key t = T at HW ⊢
  generalize 3 * t.high = n at HW ⊢
  generalize (t.look key).1 = lk at HG
  clear h ht hsz hb0 hk
  go_enter Try.func19, Try.ntmps19
  go_wp2_with fail
  refine HG.out.mono ?_
  rintro e w0 ⟨rfl, hb⟩
  have hm0 : w0.heap[w.heap.size]? = some (boxM (.pointer a) root) := (hb.block _ (by simp; omega)).trans (heap_alloc_lt _ _ _ _ (heap_alloc_at _ _ _ rfl))
  have hr0 : w0.heap[w.heap.size + 1]? = some (boxM (.pointer none) 0) := (hb.block _ (by simp)).trans (heap_alloc_at _ _ _ (by simp))
  have HX0 : Hid (Below w.heap.size w w0 ∧ w0.heap[w.heap.size]? = some (boxM (.pointer a) root) ∧ w0.heap[w.heap.size + 1]? = some (boxM (.pointer none) 0)) := Lib.hid ⟨HB0.out.trans (hb.mono HB0.out.size), hm0, hr0⟩
  obtain ⟨hgm, m0, m1⟩ := cellsM hm0
  clear hb hm0 hr0 HG
  go_wp2_with fail
  refine (HM.out _ HX0.out.1).mono ?_
  rintro e w1 ⟨B, rfl, hB, hBI, hb⟩
  have hm : w1.heap[w.heap.size]? = some (boxM (.pointer a) root) := (hb.block _ (heap_lt HX0.out.2.1)).trans HX0.out.2.1
  have hr : w1.heap[w.heap.size + 1]? = some (boxM (.pointer none) 0) := (hb.block _ (heap_lt HX0.out.2.2)).trans HX0.out.2.2
  have HX : Hid (BI w1 B (.pointer a) o root (zs.length : Int) room zs 0 ∧ w.heap.size + 2 ≤ B ∧ Below w.heap.size w w1 ∧ w1.heap[w.heap.size + 1]? = some (boxM (.pointer none) 0)) := Lib.hid ⟨hBI, by have := heap_lt HX0.out.2.2; omega, HX0.out.1.trans (hb.mono HX0.out.1.size), hr⟩
  clear m0 m1 hgm
  obtain ⟨hgm, m0, m1⟩ := cellsM hm
  clear hB hBI hb hm hr HM
  go_wp2_with fail
  refine (HW.out _ _ HX.out.1).mono ?_
  rintro e w2 ⟨R, hO, hlen, hs⟩
  obtain ⟨rfl, _⟩ := id hs
  have HFin := Lib.hid (pmfin HA.out HX.out.2.2.1 (by have := HX.out.2.1; omega) hs hO.fin)
  clear hs hO hlen m0 m1 hgm HW
  go_wp2_with fail
  refine HFin.out.mono ?_
  rintro e w3 ⟨root', why, zs', o', rfl, HE⟩
  have HS : Hid (w3.heap[w.heap.size + 1]? = some (boxM (.pointer none) 0)) := Lib.hid ((HE.out.2.2.2.2 _ (heap_lt HX.out.2.2.2) (by omega) (by have := HX.out.2.1; omega)).1.trans HX.out.2.2.2)
  clear HFin
  go_wp2_with (refine wpList_store_map rfl (.tmp 4) (.tmp 29) rfl (w.heap.size + 1) a none root' 0 rfl rfl HS.out ?_; intro w4 hst; have HST := Lib.hid hst; obtain ⟨_, r0, r1⟩ := cellsM hst.2.2.2.2.1; clear hst)
  exact bodyPost_ret (v := .tuple #[.agg #[.pointer a, .int .i64 root'], .int .i64 why]) (by simp [results, Try.results19, go_sem, r0, r1]) rfl (fin_end HE.out (by omega) (heap_lt HX.out.2.2.2) (by have := HX.out.2.1; omega) HST.out)
set_option maxHeartbeats 8000000 in
set_option maxRecDepth 100000 in
theorem pmdel_none {pv : Value} {o : Option Nat} {room : Nat} {zs : List Cel} {w : World} {t : Tre} {root : Int} (key : Int) (h : ArV w pv o room zs) (ht : Tr zs t root) (hk : t.has key = false) :
    Calls Try.prog 19 #[.agg #[pv, .int .i64 root], .int .i64 key] w (DoneY pv 0 3 w) := by
  obtain ⟨a, rfl⟩ := h.ptr
  have hb0 : Below w.heap.size w ((w.alloc (boxM (.pointer a) root)).alloc (boxM (.pointer none) 0)) := ((Below.refl _ _).alloc (Nat.le_refl _) _).alloc (by simp) _
  have HA := Lib.hid h
  have HB0 := Lib.hid hb0
  have HG : Hid (Calls Try.prog 59 #[.agg #[.pointer a, .int .i64 root], .int .i64 key] ((w.alloc (boxM (.pointer a) root)).alloc (boxM (.pointer none) 0)) (IntBoolM (t.look key).1 false ((w.alloc (boxM (.pointer a) root)).alloc (boxM (.pointer none) 0)))) := Lib.hid (by
    have := pmget key (h.below hb0) ht
    rwa [look_has, hk] at this)
  generalize (t.look key).1 = lk at HG
  clear h ht hb0 hk
  go_enter Try.func19, Try.ntmps19
  go_wp2_with fail
  refine HG.out.mono ?_
  rintro e w0 ⟨rfl, hb⟩
  have hm0 : w0.heap[w.heap.size]? = some (boxM (.pointer a) root) := (hb.block _ (by simp; omega)).trans (heap_alloc_lt _ _ _ _ (heap_alloc_at _ _ _ rfl))
  have hr0 : w0.heap[w.heap.size + 1]? = some (boxM (.pointer none) 0) := (hb.block _ (by simp)).trans (heap_alloc_at _ _ _ (by simp))
  have HX0 : Hid (Below w.heap.size w w0 ∧ w0.heap[w.heap.size + 1]? = some (boxM (.pointer none) 0)) := Lib.hid ⟨HB0.out.trans (hb.mono HB0.out.size), hr0⟩
  obtain ⟨hgm, m0, m1⟩ := cellsM hm0
  clear hb hm0 hr0 HG
  go_wp2_with fail
  refine (pmnew (HA.out.below HX0.out.1)).mono ?_
  rintro e w1 ⟨rfl, hb⟩
  have HS : Hid (w1.heap[w.heap.size + 1]? = some (boxM (.pointer none) 0) ∧ Below w.heap.size w w1) := Lib.hid ⟨(hb.block _ (heap_lt HX0.out.2)).trans HX0.out.2, HX0.out.1.trans (hb.mono HX0.out.1.size)⟩
  clear hb m0 m1 hgm
  go_wp2_with (refine wpList_store_map rfl (.tmp 4) (.tmp 19) rfl (w.heap.size + 1) a none 0 0 rfl rfl HS.out.1 ?_; intro w4 hst; have HST := Lib.hid hst; obtain ⟨_, r0, r1⟩ := cellsM hst.2.2.2.2.1; clear hst)
  exact bodyPost_ret (v := .tuple #[.agg #[.pointer a, .int .i64 0], .int .i64 3]) (by simp [results, Try.results19, go_sem, r0, r1]) rfl ⟨rfl, HST.out.below HS.out.2 (by omega)⟩
/-- What Move makes: the pairs' tree, of just as many cells. -/
def MoveP (zs : List Cel) (n : Nat) (T : Tre) (zs' : List Cel) (root' : Int) : Prop := (∃ new, zs' = zs ++ new ∧ new.length = n) ∧ Tr zs' T root'
set_option maxHeartbeats 8000000 in
set_option maxRecDepth 100000 in
theorem pmmove {pv pv2 : Value} {o o2 : Option Nat} {room room2 : Nat} {zs zs2 : List Cel} {w : World} {t : Tre} {root : Int} (h : ArV w pv o room zs) (ht : Tr zs t root) (hsz : t.size < 65536) (h2 : ArV w pv2 o2 room2 zs2) :
    Calls Try.prog 56 #[.agg #[pv, .int .i64 root], pv2] w (MP pv2 o2 room2 zs2 (MoveP zs2 t.size (mkT t.list)) (room2 < zs2.length + t.size) w) := by
  obtain ⟨a, rfl⟩ := h.ptr
  obtain ⟨a2, rfl⟩ := h2.ptr
  have hb0 : Below w.heap.size w ((w.alloc (boxM (.pointer a) root)).alloc (boxM (.pointer none) 0)) := ((Below.refl _ _).alloc (Nat.le_refl _) _).alloc (by simp) _
  have HA := Lib.hid h2
  have HB0 := Lib.hid hb0
  have HL := Lib.hid (pmlist (h.below hb0) ht hsz)
  have HN := Lib.hid (fun (X : World) (hX : Below w.heap.size w X) => pmnew (h2.below hX))
  have HM := Lib.hid (fun (X : World) (hX : Below w.heap.size w X) => pmbuild 0 (h2.below hX))
  have HOK := Lib.hid (ht.oks h.oks)
  have HLN := Lib.hid t.list_len
  have HSZ := Lib.hid hsz
  clear h ht hsz hb0 h2
  go_enter Try.func56, Try.ntmps56
  go_wp2_with fail
  refine HL.out.mono ?_
  rintro e w0 ⟨vl, rfl, hol, hb⟩
  have hr0 : w0.heap[w.heap.size + 1]? = some (boxM (.pointer none) 0) := (hb.block _ (by simp)).trans (heap_alloc_at _ _ _ (by simp))
  have HX0 : Hid (Below w.heap.size w w0 ∧ w0.heap[w.heap.size + 1]? = some (boxM (.pointer none) 0) ∧ OwnPai (w.heap.size + 2) w0 vl t.list) := Lib.hid ⟨HB0.out.trans (hb.mono HB0.out.size), hr0, by simpa using hol⟩
  clear hb hr0 hol HL
  go_wp2_with fail
  refine (HN.out _ HX0.out.1).mono ?_
  rintro e w01 ⟨rfl, hb⟩
  have HX1 : Hid (Below w.heap.size w w01 ∧ w01.heap[w.heap.size + 1]? = some (boxM (.pointer none) 0) ∧ OwnPai (w.heap.size + 2) w01 vl t.list) := Lib.hid ⟨HX0.out.1.trans (hb.mono HX0.out.1.size), (hb.block _ (heap_lt HX0.out.2.1)).trans HX0.out.2.1, HX0.out.2.2.below hb⟩
  clear hb HX0
  go_wp2_with fail
  refine (HM.out _ HX1.out.1).mono ?_
  rintro e w1 ⟨B, rfl, hB, hBI, hb⟩
  have hr : w1.heap[w.heap.size + 1]? = some (boxM (.pointer none) 0) := (hb.block _ (heap_lt HX1.out.2.1)).trans HX1.out.2.1
  have HX : Hid (BI w1 B (.pointer a2) o2 0 (zs2.length : Int) room2 zs2 0 ∧ w.heap.size + 2 ≤ B ∧ Below w.heap.size w w1 ∧ w1.heap[w.heap.size + 1]? = some (boxM (.pointer none) 0)) := Lib.hid ⟨hBI, by have := heap_lt HX1.out.2.1; omega, HX1.out.1.trans (hb.mono HX1.out.1.size), hr⟩
  have HPL : Hid (PL w1 vl t.list (BF B (.pointer a2) o2)) := Lib.hid (by
    have ho := HX1.out.2.2
    have ho1 := ho.below hb
    rcases ho1.2 with ⟨hv, h0⟩ | ⟨g, cap, cur, hv, _, hg, hcap, _⟩
    · exact .inl ⟨List.length_eq_zero_iff.1 h0, none, 0, hv⟩
    · have hg1 := ho.base g (by rw [hv]; rfl)
      refine .inr ⟨g, 0, cap, hv, hcap, heap_lt hg, fun k => ?_, ?_⟩
      · rcases k with k | k
        · omega
        · have := HA.out.lt g k; omega
      · have hl := ho1.list (by have := HLN.out; have := HSZ.out; omega)
        rcases hl with ⟨⟨p, c, hv2⟩, h0⟩ | ⟨g', o', c', hv2, _, _, _, hc⟩
        · exact fun k hk => absurd hk (by rw [h0]; simp)
        · rw [hv] at hv2
          injection hv2 with e1 e2 e3
          injection e1 with e1
          injection e1 with e1 e4
          subst e1 e4
          exact hc)
  clear hB hBI hb hr HM
  go_wp2_with fail
  refine (ball _ t.list vl _ _ _ _ rfl (by have := HLN.out; have := HSZ.out; omega) HOK.out HX.out.1 (.inl rfl) HPL.out).mono ?_
  rintro e w2 ⟨R, hO, hs⟩
  obtain ⟨rfl, _⟩ := id hs
  have HFin := Lib.hid (pmfin (P := MoveP zs2 t.size (mkT t.list)) (Z := room2 < zs2.length + t.size) HA.out HX.out.2.2.1 (by have := HX.out.2.1; omega) hs (by
    rcases hO with ⟨_, new, he, h⟩ | ⟨h0, _⟩
    · refine ⟨⟨new, he⟩, ?_⟩
      rw [HLN.out] at h
      rcases h with ⟨h1, h2, h3⟩ | ⟨h1, _, h3, _⟩
      · exact .inl ⟨h1, ⟨new, he, h3⟩, h2⟩
      · exact .inr ⟨h1, h3⟩
    · exact absurd h0 (by decide)))
  clear hs hO
  go_wp2_with fail
  refine HFin.out.mono ?_
  rintro e w3 ⟨root', why, zs', o', rfl, HE⟩
  have HS : Hid (w3.heap[w.heap.size + 1]? = some (boxM (.pointer none) 0)) := Lib.hid ((HE.out.2.2.2.2 _ (heap_lt HX.out.2.2.2) (by omega) (by have := HX.out.2.1; omega)).1.trans HX.out.2.2.2)
  clear HFin
  go_wp2_with (refine wpList_store_map rfl (.tmp 4) (.tmp 18) rfl (w.heap.size + 1) a2 none root' 0 rfl rfl HS.out ?_; intro w4 hst; have HST := Lib.hid hst; obtain ⟨_, r0, r1⟩ := cellsM hst.2.2.2.2.1; clear hst)
  exact bodyPost_ret (v := .tuple #[.agg #[.pointer a2, .int .i64 root'], .int .i64 why]) (by simp [results, Try.results56, go_sem, r0, r1]) rfl (fin_end HE.out (by omega) (heap_lt HX.out.2.2.2) (by have := HX.out.2.1; omega) HST.out)
end Go.Proofs.Ytpmimngngehmlaa.F
