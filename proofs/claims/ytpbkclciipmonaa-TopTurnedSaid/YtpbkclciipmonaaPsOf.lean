/-
  Contract of sequences: Of. Not a statement of the seat.
-/
import Derived.Test.YtpbkclciipmonaaPsFin
import Derived.Test.YtpbkclciipmonaaPsAll
namespace Go.Proofs.Ytpbkclciipmonaa.F
open Go.ChangeShapes Go.WideShapes Go.ChangeAt Go.RowKit Base
set_option maxRecDepth 100000 in
set_option maxHeartbeats 8000000 in
theorem psof {pv : Value} {o : Option Nat} {room : Nat} {zs : List Cel} {w : World} {l : List Int} {v : Value} (h : ArV w pv o room zs) (hn : NL w v l (VF pv o)) (hl : l.length ≤ 100000) (hok : ∀ x ∈ l, -9223372036854775808 ≤ x ∧ x ≤ 9223372036854775807) :
    Calls Try.prog 43 #[pv, v] w (MP pv o room zs (MoveP zs l.length (mkN l)) (room < zs.length + l.length) w) := by
  obtain ⟨a, rfl⟩ := h.ptr
  obtain ⟨p, c, rfl⟩ : ∃ p c, v = .slice p l.length c := by
    rcases hn with ⟨rfl, p, c, rfl⟩ | ⟨g, off, c, rfl, _⟩
    · exact ⟨p, c, rfl⟩
    · exact ⟨_, c, rfl⟩
  have hb0 : Below w.heap.size w (w.alloc (boxS (.pointer none) 0)) := (Below.refl _ _).alloc (Nat.le_refl _) _
  have HA := Lib.hid h
  have HB0 := Lib.hid hb0
  have HN := Lib.hid (fun (X : World) (hX : Below w.heap.size w X) => psnew (h.below hX))
  have HR := Lib.hid (fun (X : World) (hX : Below w.heap.size w X) => arroom_v (h.below hX))
  have HM := Lib.hid (fun (X : World) (hX : Below w.heap.size w X) => psedit 0 (h.below hX))
  have HNL := Lib.hid hn
  have HOK := Lib.hid hok
  have hle := h.le.1
  have hroom : room ≤ 65536 := by
    rcases h with ⟨_, _, h2, _⟩ | ⟨b, _, h⟩
    · omega
    · have := h.1; omega
  clear h hn hok
  go_enter Try.func43, Try.ntmps43
  go_wp2_with fail
  refine (HN.out _ HB0.out).mono ?_
  rintro e w1 ⟨rfl, hb⟩
  have HX1 : Hid (Below w.heap.size w (w1.alloc (boxS (.pointer a) 0)) ∧ (w1.alloc (boxS (.pointer a) 0)).heap[w.heap.size]? = some (boxS (.pointer none) 0) ∧ (w1.alloc (boxS (.pointer a) 0)).heap[w1.heap.size]? = some (boxS (.pointer a) 0) ∧ w.heap.size < w1.heap.size) := Lib.hid (by
    have h1 : w1.heap[w.heap.size]? = some (boxS (.pointer none) 0) := (hb.block _ (by simp)).trans (heap_alloc_at _ _ _ rfl)
    have h2 := HB0.out.trans (hb.mono HB0.out.size)
    exact ⟨h2.alloc h2.size _, heap_alloc_lt _ _ _ _ h1, heap_alloc_at _ _ _ rfl, heap_lt h1⟩)
  clear hb hb0
  obtain ⟨gx, hgx⟩ : ∃ gx, gx = w1.heap.size := ⟨_, rfl⟩
  go_wp2_with fail
  refine (HR.out _ HX1.out.1).mono ?_
  rintro e w2 ⟨rfl, n2, rfl⟩
  obtain ⟨Y, hY⟩ : ∃ Y, Y = (w1.alloc (boxS (.pointer a) 0)).drewN n2 := ⟨_, rfl⟩
  have HX2 : Hid (Below w.heap.size w Y ∧ Y.heap[w.heap.size]? = some (boxS (.pointer none) 0) ∧ Y.heap[gx]? = some (boxS (.pointer a) 0) ∧ w.heap.size < gx) := Lib.hid (by rw [hY, hgx]; exact ⟨below_drewN HX1.out.1 _, HX1.out.2.1, HX1.out.2.2.1, HX1.out.2.2.2⟩)
  obtain ⟨_, m0, m1⟩ := cellsS HX2.out.2.2.1
  rw [← hY, ← hgx]
  clear hY hgx HX1
  by_cases hf : (room : Int) - (zs.length : Int) < (l.length : Int)
  · go_wp2_with (refine wpList_store_seq rfl (.tmp 4) (.tmp 15) rfl w.heap.size a none 0 0 rfl rfl HX2.out.2.1 ?_; intro w4 hst; have HST := Lib.hid hst; obtain ⟨_, r0, r1⟩ := cellsS hst.2.2.2.2.1; clear hst)
    refine bodyPost_ret (v := .tuple #[.agg #[.pointer a, .int .i64 0], .int .i64 2]) (by simp [results, Try.results43, go_sem, r0, r1]) rfl ?_
    have hbw := HST.out.below HX2.out.1 (Nat.le_refl _)
    exact ⟨0, 2, zs, o, rfl, HA.out.below hbw, Mv.refl _ _, Fr.of_below hbw, .inr ⟨rfl, rfl, rfl, by omega⟩⟩
  · go_wp2_with fail
    refine (HM.out _ HX2.out.1).mono ?_
    rintro e w3 ⟨B, rfl, hB, hBI, hb⟩
    have hbw := HX2.out.1.trans (hb.mono HX2.out.1.size)
    have J0 : Hid (EDS B (.pointer a) 0 (zs.length : Int) room w o w3 o zs 0 [(w.heap.size, boxS (.pointer none) 0), (gx, boxS (.pointer a) 0)]) := Lib.hid (EDS.begin HA.out hbw hBI (fun q hq => by
      have g1 := heap_lt HX2.out.2.1
      have g2 := heap_lt HX2.out.2.2.1
      have g3 := HX2.out.2.2.2
      simp only [List.mem_cons, List.not_mem_nil, or_false] at hq
      rcases hq with rfl | rfl
      · exact ⟨(hb.block _ g1).trans HX2.out.2.1, Nat.le_refl _, by simp only; omega⟩
      · exact ⟨(hb.block _ g2).trans HX2.out.2.2.1, by simp only; omega, by simp only; omega⟩) (by have := HX2.out.2.2.2; simp; omega))
    have HBB : Hid (w.heap.size ≤ B) := Lib.hid (by have := heap_lt HX2.out.2.1; omega)
    have HAL := Lib.hid (eall l.length l _ w3 o zs 0 rfl hl HOK.out hBI (.inl rfl) (HNL.out.keep hbw.size fun g hg hv => ⟨hbw.block g hg, fun k => by
      rcases k with rfl | k
      · have := HBB.out; omega
      · exact hv k⟩))
    clear hB hBI hb hbw m0 m1 HX2 HM HN HR HB0
    go_wp2_with fail
    refine HAL.out.mono ?_
    rintro e w5 ⟨R, hR, hs⟩
    obtain ⟨rfl, o5, J5⟩ := J0.out.call hs
    have HFN := Lib.hid (psfing (P := MoveP zs l.length (mkN l)) (Z := room < zs.length + l.length) HBB.out J5.out (by
      rcases hR with ⟨_, new, he, ⟨h1, h2, h3⟩ | ⟨h1, _, h3, _⟩⟩ | ⟨h0, _⟩
      · exact ⟨⟨new, he⟩, .inl ⟨h1, ⟨new, he, h3⟩, h2⟩⟩
      · exact ⟨⟨new, he⟩, .inr ⟨h1, h3⟩⟩
      · cases h0))
    clear hs hR HAL J0 J5
    go_wp2_with fail
    refine HFN.out.mono ?_
    rintro e w6 ⟨root2, why2, zs2, o2, rfl, HE⟩
    clear HFN
    go_wp2_with (refine wpList_store_seq rfl (.tmp 4) (.tmp 23) rfl w.heap.size a none root2 0 rfl rfl (HE.out.2.2.2.2 (w.heap.size, boxS (.pointer none) 0) (by simp)).1 ?_; intro w7 hst; have HST := Lib.hid hst; obtain ⟨_, r0, r1⟩ := cellsS hst.2.2.2.2.1; clear hst)
    exact bodyPost_ret (v := .tuple #[.agg #[.pointer a, .int .i64 root2], .int .i64 why2]) (by simp [results, Try.results43, go_sem, r0, r1]) rfl (sfin_end HE.out (gr := w.heap.size) (ob := boxS (.pointer none) 0) (by simp) HST.out)
end Go.Proofs.Ytpbkclciipmonaa.F
