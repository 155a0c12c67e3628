/-
  Sequences: Move; a list that was made is kept. Not a statement of the seat.
-/
import Derived.Test.YtbgepeokadmemaaPsList
import Derived.Test.YtbgepeokadmemaaHead5
import Derived.Test.YtbgepeokadmemaaHead7
import Derived.Test.YtbgepeokadmemaaHead4
namespace Go.Proofs.Ytbgepeokadmemaa.F
open Go.ChangeShapes Go.WideShapes Go.ChangeAt Go.RowKit Base
theorem OwnI.nl {B : Nat} {w : World} {v : Value} {l : List Int} {F : Nat → Prop} (h : Lst.OwnI B w v l) (hl : l.length ≤ 100000) (hF : ∀ g, F g → g < B) : NL w v l F := by
  have hi := h.ints (by omega)
  rcases h.form with ⟨h0, hv⟩ | ⟨g, cap, hv, hB, hg, hc⟩
  · exact .inl ⟨h0, none, 0, by rw [hv]⟩
  · rcases hi with ⟨_, h0⟩ | ⟨g', o', c', hv2, _, _, _, hk⟩
    · subst h0; exact .inl ⟨rfl, _, _, hv⟩
    · rw [hv] at hv2
      injection hv2 with e1 e2 e3
      injection e1 with e1
      injection e1 with e1 e4
      subst e1 e4
      exact .inr ⟨g, 0, cap, hv, hc, hg, fun k => by have := hF g k; omega, hk⟩
set_option maxRecDepth 100000 in
set_option maxHeartbeats 8000000 in
theorem psmove {pv pv2 : Value} {o o2 : Option Nat} {room room2 : Nat} {zs zs2 : List Cel} {w : World} {t : Tre} {root : Int} (h : ArV w pv o room zs) (ht : Tr zs t root) (hsz : t.size < 65536) (h2 : ArV w pv2 o2 room2 zs2) (hok : ∀ x ∈ t.vals, -9223372036854775808 ≤ x ∧ x ≤ 9223372036854775807) :
    Calls Try.prog 14 #[.agg #[pv, .int .i64 root], pv2] w (MP pv2 o2 room2 zs2 (MoveP zs2 t.size (mkN t.vals)) (room2 < zs2.length + t.size) w) := by
  obtain ⟨a, rfl⟩ := h.ptr
  obtain ⟨a2, rfl⟩ := h2.ptr
  have hb0 : Below w.heap.size w ((w.alloc (boxS (.pointer a) root)).alloc (boxS (.pointer none) 0)) := ((Below.refl _ _).alloc (Nat.le_refl _) _).alloc (by simp) _
  have HA := Lib.hid h2
  have HB0 := Lib.hid hb0
  have HL := Lib.hid (pslist (h.below hb0) ht hsz)
  have HOK := Lib.hid hok
  have HLN : Hid (t.vals.length = t.size ∧ t.size < 65536) := Lib.hid ⟨t.vals_len, hsz⟩
  clear h ht hsz hb0 h2 hok
  go_enter Try.func14, Try.ntmps14
  go_wp2_with fail
  refine HL.out.mono ?_
  rintro e w1 ⟨vl, rfl, hol, hb⟩
  have HR1 : Hid (w1.heap[w.heap.size + 1]? = some (boxS (.pointer none) 0)) := Lib.hid ((hb.block _ (by simp)).trans (heap_alloc_at _ _ _ (by simp)))
  have HB1 : Hid (Below w.heap.size w w1) := Lib.hid (HB0.out.trans (hb.mono HB0.out.size))
  have HNL : Hid (NL w1 vl t.vals (VF (.pointer a2) o2)) := Lib.hid (OwnI.nl hol (by have := HLN.out; omega) (fun g k => by have := HA.out.lt g k; simp only [World.size_alloc]; omega))
  clear hol hb HL
  have HOF := Lib.hid (psof (HA.out.below HB1.out) HNL.out (by have := HLN.out; omega) HOK.out)
  rw [HLN.out.1] at HOF
  clear HNL
  go_wp2_with fail
  refine HOF.out.mono ?_
  rintro e w2 ⟨root2, why2, zs3, o3, rfl, hav, hmv, hfr, hM⟩
  have HR2 : Hid (w2.heap[w.heap.size + 1]? = some (boxS (.pointer none) 0)) := Lib.hid ((hfr.block (heap_lt HR1.out) (fun k => by have := HA.out.lt _ k; omega)).trans HR1.out)
  have HX := Lib.hid (And.intro hav (And.intro hmv (And.intro ((Fr.of_below (F := VF (.pointer a2) o2) HB1.out).trans hfr (fun _ _ k => k)) hM)))
  have HRL : Hid (w.heap.size + 1 < w1.heap.size) := Lib.hid (heap_lt HR1.out)
  clear hav hmv hfr hM HOF HR1
  go_wp2_with (refine wpList_store_seq rfl (.tmp 4) (.tmp 10) rfl (w.heap.size + 1) a2 none root2 0 rfl rfl HR2.out ?_; intro w3 hst; have HST := Lib.hid hst; clear hst)
  obtain ⟨_, r0, r1⟩ := cellsS HST.out.2.2.2.2.1
  refine bodyPost_ret (v := .tuple #[.agg #[.pointer a2, .int .i64 root2], .int .i64 why2]) (by simp [results, Try.results14, go_sem, r0, r1]) rfl ?_
  obtain ⟨k1, k2, k3, k4⟩ := HX.out
  have hs := HST.out
  have hf : Fr (fun g => g = w.heap.size + 1) w2 w3 := ⟨hs.1, hs.2.1, hs.2.2.1, by rw [hs.2.2.2.1]; exact Nat.le_refl _, fun g _ hn => hs.2.2.2.2.2 g hn⟩
  exact ⟨root2, why2, zs3, o3, rfl, k1.fr hf (fun g hv e => by
    subst e
    have := HA.out.lt _ (k2.vf _ HRL.out hv)
    omega), k2.lower HB1.out.size, k3.trans hf (fun g hg e => by omega), k4⟩
end Go.Proofs.Ytbgepeokadmemaa.F
