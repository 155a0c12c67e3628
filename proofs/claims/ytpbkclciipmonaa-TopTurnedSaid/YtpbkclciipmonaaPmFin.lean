/-
  Contracts of maps in an arena: Put, Del, Move. Not a statement of the seat.
-/
import Derived.Test.YtpbkclciipmonaaHead
import Derived.Test.YtpbkclciipmonaaPmPairs
import Derived.Test.YtpbkclciipmonaaPmGet
namespace Go.Proofs.Ytpbkclciipmonaa.F
open Go.ChangeShapes Go.WideShapes Go.ChangeAt Go.RowKit Base
/-- What done leaves behind a builder's way. -/
def Fin (B : Nat) (pv : Value) (o : Option Nat) (room : Nat) (zs : List Cel) (P : List Cel → Int → Prop) (Z : Prop) (w wb : World) (e : Ending) (w' : World) : Prop :=
  ∃ root' why zs' o', e = .returned (.tuple #[.agg #[pv, .int .i64 root'], .int .i64 why]) ∧ Hid (ArV w' pv o' room zs' ∧ Mv o o' w ∧ Fr (VF pv o) w w' ∧ MRes P Z zs zs' root' why ∧ ∀ g, g < wb.heap.size → w.heap.size ≤ g → g ≠ B → w'.heap[g]? = wb.heap[g]? ∧ ¬ VF pv o' g)
theorem pmfin {B : Nat} {pv : Value} {o : Option Nat} {root : Int} {room : Nat} {zs : List Cel} {R : List Cel × Int × Int} {P : List Cel → Int → Prop} {Z : Prop} {w wb w2 : World} {v : Value} {e : Ending} (hA : ArV w pv o room zs) (hb : Below w.heap.size w wb) (hB : w.heap.size ≤ B)
    (hp : BP B pv o root (zs.length : Int) room R.1 R.2.1 v wb e w2) (hR : (∃ new, R.1 = zs ++ new) ∧ ((R.2.1 = 0 ∧ P R.1 R.2.2) ∨ (R.2.1 = 2 ∧ Z))) : Calls Try.prog 60 #[.pointer (some ⟨B, 0, none⟩), .int .i64 R.2.2] w2 (Fin B pv o room zs P Z w wb) := by
  obtain ⟨_, o2, hBI, hM, hF⟩ := hp
  have hM' : Mv o o2 w := hM.lower hb.size
  have hF' : Fr (VF pv o) w w2 := (Fr.of_below hb).trans hF (fun g hg k => by
    rcases k with rfl | k
    · omega
    · exact k)
  have hold : ∀ g, g < wb.heap.size → w.heap.size ≤ g → g ≠ B → w2.heap[g]? = wb.heap[g]? ∧ ¬ VF pv o2 g := fun g h1 h2 h3 => by
    have hn : ¬ VF pv o g := fun k => by have := hA.lt g k; omega
    exact ⟨hF.block h1 (fun k => k.elim h3 hn), fun k => hn (hM.vf g h1 k)⟩
  obtain ⟨⟨new, hnew⟩, hR⟩ := hR
  rcases hR with ⟨h0, hP⟩ | ⟨h2, hZ⟩
  · rw [h0] at hBI
    refine (pmdone_yes R.2.2 hBI).mono fun e' w3 ⟨he, hb3⟩ => ?_
    exact ⟨_, _, R.1, o2, he, Lib.hid ⟨hBI.2.below hb3, hM', hF'.trans (Fr.of_below (F := fun _ => False) hb3) (fun _ _ k => k.elim), .inl ⟨rfl, hP⟩, fun g h1 h2 h3 => ⟨(hb3.block g (Nat.lt_of_lt_of_le h1 hF.size)).trans (hold g h1 h2 h3).1, (hold g h1 h2 h3).2⟩⟩⟩
  · rw [h2] at hBI
    refine (pmdone_no (n := zs.length) R.2.2 hBI (by rw [hnew]; simp)).mono fun e' w3 ⟨he, o3, h3, h4, h5⟩ => ?_
    rw [show R.1.take zs.length = zs by rw [hnew]; simp] at h3
    exact ⟨_, _, zs, o3, he, Lib.hid ⟨h3, hM'.trans h4 hF'.size, hF'.trans h5 (fun g hg k => hM'.vf g hg k), .inr ⟨rfl, rfl, rfl, hZ⟩, fun g h1 h2 h6 => ⟨(h5.block (Nat.lt_of_lt_of_le h1 hF.size) (hold g h1 h2 h6).2).trans (hold g h1 h2 h6).1, fun k => (hold g h1 h2 h6).2 (h4.vf g (Nat.lt_of_lt_of_le h1 hF.size) k)⟩⟩⟩
/-- The result's box, stored into at the end. -/
theorem fin_end {B gr : Nat} {a : Option Addr} {o : Option Nat} {room : Nat} {zs : List Cel} {P : List Cel → Int → Prop} {Z : Prop} {w wb w3 w4 : World} {root' why : Int} {zs' : List Cel} {o' : Option Nat}
    (h : ArV w3 (.pointer a) o' room zs' ∧ Mv o o' w ∧ Fr (VF (.pointer a) o) w w3 ∧ MRes P Z zs zs' root' why ∧ ∀ g, g < wb.heap.size → w.heap.size ≤ g → g ≠ B → w3.heap[g]? = wb.heap[g]? ∧ ¬ VF (.pointer a) o' g) (hgr : w.heap.size ≤ gr) (h1 : gr < wb.heap.size) (h2 : gr ≠ B) (hs : Stored w3 gr (boxM (.pointer a) root') w4) :
    MP (.pointer a) o room zs P Z w (.returned (.tuple #[.agg #[.pointer a, .int .i64 root'], .int .i64 why])) w4 := by
  obtain ⟨k1, k2, k3, k4, k5⟩ := h
  have hf : Fr (fun g => g = gr) w3 w4 := ⟨hs.1, hs.2.1, hs.2.2.1, by rw [hs.2.2.2.1]; exact Nat.le_refl _, fun g _ hn => hs.2.2.2.2.2 g hn⟩
  exact ⟨root', why, zs', o', rfl, k1.fr hf (fun g hv e => (k5 gr h1 hgr h2).2 (e ▸ hv)), k2, k3.trans hf (fun g hg e => by omega), k4⟩
set_option maxHeartbeats 8000000 in
set_option maxRecDepth 100000 in
theorem pmput {pv : Value} {o : Option Nat} {room : Nat} {zs : List Cel} {w : World} {t : Tre} {root : Int} (p : Pai) (hp : p.ok) (h : ArV w pv o room zs) (ht : Tr zs t root) (hsz : t.size ≤ 500000) :
    Calls Try.prog 21 #[.agg #[pv, .int .i64 root], .int .i64 p.k, .int .i64 p.v] w (MP pv o room zs (PutP zs (3 * t.high + 1) (Tre.ins p.k p.v t)) (room < zs.length + (3 * t.high + 1)) w) := by
  obtain ⟨a, rfl⟩ := h.ptr
  have hb0 : Below w.heap.size w ((w.alloc (boxM (.pointer a) root)).alloc (boxM (.pointer none) 0)) := ((Below.refl _ _).alloc (Nat.le_refl _) _).alloc (by simp) _
  have HA := Lib.hid h
  have HB0 := Lib.hid hb0
  have HM := Lib.hid (pmbuild root (h.below hb0))
  have HW := Lib.hid fun (B : Nat) (X : World) (hX : BI X B (.pointer a) o root (zs.length : Int) room zs 0) => bwith p hp t X o zs root hX ht hsz
  generalize Tre.ins p.k p.v t = T at HW ⊢
  generalize 3 * t.high + 1 = n at HW ⊢
  clear h ht hsz hb0 hp
  go_enter Try.func21, Try.ntmps21
  go_wp2_with fail
  refine HM.out.mono ?_
  rintro e w1 ⟨B, rfl, hB, hBI, hb⟩
  have hm : w1.heap[w.heap.size]? = some (boxM (.pointer a) root) := (hb.block _ (by simp; omega)).trans (heap_alloc_lt _ _ _ _ (heap_alloc_at _ _ _ rfl))
  have hr : w1.heap[w.heap.size + 1]? = some (boxM (.pointer none) 0) := (hb.block _ (by simp)).trans (heap_alloc_at _ _ _ (by simp))
  have HX : Hid (BI w1 B (.pointer a) o root (zs.length : Int) room zs 0 ∧ w.heap.size + 2 ≤ B ∧ Below w.heap.size w w1 ∧ w1.heap[w.heap.size + 1]? = some (boxM (.pointer none) 0)) := Lib.hid ⟨hBI, by simp at hB; omega, HB0.out.trans (hb.mono HB0.out.size), hr⟩
  obtain ⟨hgm, m0, m1⟩ := cellsM hm
  clear hB hBI hb hm hr HM
  go_wp2_with fail
  refine (HW.out _ _ HX.out.1).mono ?_
  rintro e w2 ⟨R, hO, hlen, hs⟩
  obtain ⟨rfl, _⟩ := id hs
  have HFin := Lib.hid (pmfin HA.out HX.out.2.2.1 (by have := HX.out.2.1; omega) hs hO.fin)
  clear hs hO hlen m0 m1 hgm HW
  go_wp2_with fail
  refine HFin.out.mono ?_
  rintro e w3 ⟨root', why, zs', o', rfl, HE⟩
  have HS : Hid (w3.heap[w.heap.size + 1]? = some (boxM (.pointer none) 0)) := Lib.hid ((HE.out.2.2.2.2 _ (heap_lt HX.out.2.2.2) (by omega) (by have := HX.out.2.1; omega)).1.trans HX.out.2.2.2)
  clear HFin
  go_wp2_with (refine wpList_store_map rfl (.tmp 6) (.tmp 20) rfl (w.heap.size + 1) a none root' 0 rfl rfl HS.out ?_; intro w4 hst; have HST := Lib.hid hst; obtain ⟨_, r0, r1⟩ := cellsM hst.2.2.2.2.1; clear hst)
  exact bodyPost_ret (v := .tuple #[.agg #[.pointer a, .int .i64 root'], .int .i64 why]) (by simp [results, Try.results21, go_sem, r0, r1]) rfl (fin_end HE.out (by omega) (heap_lt HX.out.2.2.2) (by have := HX.out.2.1; omega) HST.out)
end Go.Proofs.Ytpbkclciipmonaa.F
