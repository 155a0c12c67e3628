/-
  Contracts of maps in an arena: Get, At, Rank. Not a statement of the seat.
-/
import Derived.Test.YtpmimngngehmlaaPmMap
namespace Go.Proofs.Ytpmimngngehmlaa.F
open Go.ChangeShapes Go.WideShapes Go.ChangeAt Go.RowKit Base
namespace Tre
def look (key : Int) : Tre → Int × Bool
  | nil => (0, false)
  | node l k v r => if key < k then l.look key else if k < key then r.look key else (v, true)
def nth (i : Int) : Tre → Pai × Bool
  | nil => (Pai.zero, false)
  | node l k v r => if i < (l.size : Int) then l.nth i else if (l.size : Int) < i then r.nth (i - ((l.size : Int) + 1)) else (⟨k, v⟩, true)
def rank (key : Int) : Tre → Nat
  | nil => 0
  | node l k _ r => if key ≤ k then l.rank key else l.size + 1 + r.rank key
theorem rank_le (key : Int) (t : Tre) : t.rank key ≤ t.size := by
  induction t with
  | nil => simp [rank]
  | node l k v r h1 h2 => simp only [rank, size]; split <;> omega
end Tre
theorem Tr.down {zs : List Cel} (h : Bk zs) {k v i a b : Int} {s y : Int} (hi : 1 ≤ i ∧ i ≤ (zs.length : Int)) (hc : celAt zs i = ⟨a, b, k, v, s, y⟩) : a < i ∧ b < i := by
  unfold celAt at hc
  rw [if_pos hi.1, List.getD_eq_getElem?_getD, List.getElem?_eq_getElem (by omega)] at hc
  have := h _ _ (List.getElem?_eq_getElem (show i.toNat - 1 < zs.length by omega))
  simp only [Option.getD_some] at hc
  rw [hc] at this
  simp only at this
  omega
/-- What a call that tells a number and a bool, and makes memory, leaves. -/
def IntBoolM (i : Int) (is : Bool) (w : World) (e : Ending) (w' : World) : Prop := e = .returned (.tuple #[.int .i64 i, .bool is]) ∧ Below w.heap.size w w'
set_option maxHeartbeats 8000000 in
set_option maxRecDepth 100000 in
theorem pmget {pv : Value} {o : Option Nat} {room : Nat} {zs : List Cel} {w : World} {t : Tre} {root : Int} (key : Int) (h : ArV w pv o room zs) (ht : Tr zs t root) : Calls Try.prog 59 #[.agg #[pv, .int .i64 root], .int .i64 key] w (IntBoolM (t.look key).1 (t.look key).2 w) := by
  obtain ⟨a, rfl⟩ := h.ptr
  have HI : Hid (∀ X, Below (w.alloc (boxM (.pointer a) root)).heap.size (w.alloc (boxM (.pointer a) root)) X → (X.cell? ⟨w.heap.size, 0, none⟩ = some (.pointer a) ∧ X.cell? ⟨w.heap.size, 1, none⟩ = some (.int .i64 root)) ∧ ArV X (.pointer a) o room zs ∧ w.heap.size < X.heap.size ∧ Below w.heap.size w X) := Lib.hid fun X hX => by
    have hb : Below w.heap.size w (w.alloc (boxM (.pointer a) root)) := (Below.refl _ _).alloc (Nat.le_refl _) _
    have hm := (hX.block w.heap.size (by simp)).trans (heap_alloc_at _ _ _ rfl)
    exact ⟨(cellsM hm).2, (h.below hb).below hX, heap_lt hm, hb.trans (hX.mono hb.size)⟩
  have HK := Lib.hid h.bk
  have HT := Lib.hid ht
  have hle := h.le
  clear h ht
  obtain ⟨rv, rb, hres⟩ : ∃ rv rb, t.look key = (rv, rb) := ⟨_, _, rfl⟩
  rw [hres]
  have HR := Lib.hid hres
  clear hres
  go_enter Try.func59, Try.ntmps59
  go_wp2_with fail
  go_loopw [6] (fun s6 wr => ∃ (i : Int) (t' : Tre), s6 = .int .i64 i ∧ 0 ≤ i ∧ Hid (Tr zs t' i ∧ t'.look key = (rv, rb) ∧ Below (w.alloc (boxM (.pointer a) root)).heap.size (w.alloc (boxM (.pointer a) root)) wr)) (fun s6 _ => (intOf s6).toNat)
  case atStart => exact ⟨root, t, rfl, HT.out.le.1, Lib.hid ⟨HT.out, HR.out, Below.refl _ _⟩⟩
  case round =>
    obtain ⟨i, t', rfl, hi0, J⟩ := hrel
    obtain ⟨⟨m0, m1⟩, hA, hwl, hBl⟩ := HI.out _ J.out.2.2
    have HA := Lib.hid hA
    have HBl := Lib.hid hBl
    clear hA hBl
    cases t' with
    | nil =>
      have hi : i = 0 := J.out.1
      have hr : (rv, rb) = (0, false) := J.out.2.1.symm
      injection hr with h1 h2
      subst hi h1 h2
      go_wp2_with fail
      go_ret2
      exact ⟨rfl, HBl.out⟩
    | node l k v r =>
      obtain ⟨hi, ia, ib, hcel, hl, hr⟩ := J.out.1
      have hdn := Tr.down HK.out hi hcel
      have hHC := pmcell root i HA.out
      rw [hcel] at hHC
      have HC := Lib.hid hHC
      have hia := hl.le.1
      have hib := hr.le.1
      have HL := Lib.hid hl
      have HRR := Lib.hid hr
      have HLK := Lib.hid (show (if key < k then l.look key else if k < key then r.look key else (v, true)) = (rv, rb) from J.out.2.1)
      have hnz : (i == 0) = false := by rw [beq_eq_false_iff_ne]; omega
      generalize ((Tre.node l k v r).size : Int) = cs at HC
      generalize ((Tre.node l k v r).high : Int) = ch at HC
      clear hcel hl hr hHC
      go_wp2_with fail
      refine HC.out.mono ?_
      rintro e w1 ⟨rfl, hb⟩
      have J1 : Hid (Below (w.alloc (boxM (.pointer a) root)).heap.size (w.alloc (boxM (.pointer a) root)) (w1.alloc (boxC ⟨ia, ib, k, v, cs, ch⟩))) := Lib.hid ((J.out.2.2.trans (hb.mono J.out.2.2.size)).alloc (Nat.le_trans J.out.2.2.size hb.size) _)
      clear hb HC
      rcases (show key < k ∨ k < key ∨ key = k by omega) with hk | hk | hk
      · have HN := Lib.hid (HLK.out)
        have HN2 : Hid (l.look key = (rv, rb)) := Lib.hid (by have h := HN.out; rwa [if_pos hk] at h)
        go_wp2_with fail
        go_roundw
        case rel => exact ⟨ia, l, rfl, hia, Lib.hid ⟨HL.out, HN2.out, J1.out⟩⟩
        case measure => simp [intOf]; omega
      · have HN2 : Hid (r.look key = (rv, rb)) := Lib.hid (by have h := HLK.out; rwa [if_neg (by omega), if_pos hk] at h)
        have hk1 : k ≤ key := by omega
        go_wp2_with fail
        go_roundw
        case rel => exact ⟨ib, r, rfl, hib, Lib.hid ⟨HRR.out, HN2.out, J1.out⟩⟩
        case measure => simp [intOf]; omega
      · have hn2 : (v, true) = (rv, rb) := by have h := HLK.out; rwa [if_neg (by omega), if_neg (by omega)] at h
        injection hn2 with h1 h2
        subst h1 h2
        subst hk
        have hk1 : key ≤ key := Int.le_refl _
        go_wp2_with fail
        go_ret2
        exact ⟨rfl, (HI.out _ J1.out).2.2.2⟩
set_option maxHeartbeats 8000000 in
set_option maxRecDepth 100000 in
theorem pmrank {pv : Value} {o : Option Nat} {room : Nat} {zs : List Cel} {w : World} {t : Tre} {root : Int} (key : Int) (h : ArV w pv o room zs) (ht : Tr zs t root) (hs : t.size ≤ 1000000) : Calls Try.prog 25 #[.agg #[pv, .int .i64 root], .int .i64 key] w (IntB (t.rank key : Int) w) := by
  obtain ⟨a, rfl⟩ := h.ptr
  have HI : Hid (∀ X, Below (w.alloc (boxM (.pointer a) root)).heap.size (w.alloc (boxM (.pointer a) root)) X → (X.cell? ⟨w.heap.size, 0, none⟩ = some (.pointer a) ∧ X.cell? ⟨w.heap.size, 1, none⟩ = some (.int .i64 root)) ∧ ArV X (.pointer a) o room zs ∧ w.heap.size < X.heap.size ∧ Below w.heap.size w X) := Lib.hid fun X hX => by
    have hb : Below w.heap.size w (w.alloc (boxM (.pointer a) root)) := (Below.refl _ _).alloc (Nat.le_refl _) _
    have hm := (hX.block w.heap.size (by simp)).trans (heap_alloc_at _ _ _ rfl)
    exact ⟨(cellsM hm).2, (h.below hb).below hX, heap_lt hm, hb.trans (hX.mono hb.size)⟩
  have HK := Lib.hid h.bk
  have HT := Lib.hid ht
  have hle := h.le
  clear h ht
  obtain ⟨rv, hres⟩ : ∃ rv, t.rank key = rv := ⟨_, rfl⟩
  have hrl : rv ≤ 1000000 := by rw [← hres]; exact Nat.le_trans (Tre.rank_le _ _) hs
  rw [hres]
  have HR := Lib.hid hres
  have HSZ := Lib.hid hs
  have hf := fld_s
  clear hres hs
  go_enter Try.func25, Try.ntmps25
  go_wp2_with fail
  go_loopw [5, 6] (fun s5 s6 wr => ∃ (i : Int) (n : Nat) (t' : Tre), s6 = .int .i64 i ∧ s5 = .int .i64 (n : Int) ∧ n ≤ 1000000 ∧ 0 ≤ i ∧ Hid (Tr zs t' i ∧ n + t'.rank key = rv ∧ t'.size ≤ 1000000 ∧ Below (w.alloc (boxM (.pointer a) root)).heap.size (w.alloc (boxM (.pointer a) root)) wr)) (fun _ s6 _ => (intOf s6).toNat)
  case atStart => exact ⟨root, 0, t, rfl, rfl, by omega, HT.out.le.1, Lib.hid ⟨HT.out, by rw [HR.out]; omega, HSZ.out, Below.refl _ _⟩⟩
  case round =>
    obtain ⟨i, n, t', rfl, rfl, hn, hi0, J⟩ := hrel
    obtain ⟨⟨m0, m1⟩, hA, hwl, hBl⟩ := HI.out _ J.out.2.2.2
    have HA := Lib.hid hA
    have HBl := Lib.hid hBl
    clear hA hBl
    cases t' with
    | nil =>
      have hi : i = 0 := J.out.1
      have hr : n = rv := J.out.2.1
      subst hi hr
      go_wp2_with fail
      go_ret
      exact ⟨rfl, HBl.out⟩
    | node l k v r =>
      obtain ⟨hi, ia, ib, hcel, hl, hr⟩ := J.out.1
      have hdn := Tr.down HK.out hi hcel
      have hHC := pmcell root i HA.out
      rw [hcel] at hHC
      have HC := Lib.hid hHC
      have hia := hl.le.1
      have hib := hr.le.1
      have HL := Lib.hid hl
      have HRR := Lib.hid hr
      have HLK := Lib.hid (show n + (if key ≤ k then l.rank key else l.size + 1 + r.rank key) = rv from J.out.2.1)
      have HSS := Lib.hid (show l.size + 1 + r.size ≤ 1000000 from J.out.2.2.1)
      have hnz : (i == 0) = false := by rw [beq_eq_false_iff_ne]; omega
      generalize ((Tre.node l k v r).size : Int) = cs at HC
      generalize ((Tre.node l k v r).high : Int) = ch at HC
      clear hcel hl hr hHC
      go_wp2_with fail
      refine HC.out.mono ?_
      rintro e w1 ⟨rfl, hb⟩
      have J1 : Hid (Below (w.alloc (boxM (.pointer a) root)).heap.size (w.alloc (boxM (.pointer a) root)) (w1.alloc (boxC ⟨ia, ib, k, v, cs, ch⟩))) := Lib.hid ((J.out.2.2.2.trans (hb.mono J.out.2.2.2.size)).alloc (Nat.le_trans J.out.2.2.2.size hb.size) _)
      have J10 := Lib.hid (J.out.2.2.2.trans (hb.mono J.out.2.2.2.size))
      clear hb HC m0 m1 hwl
      obtain ⟨⟨m0, m1⟩, _, hwl, _⟩ := HI.out _ J10.out
      by_cases hk : key ≤ k
      · have HN2 : Hid (n + l.rank key = rv) := Lib.hid (by have h := HLK.out; rwa [if_pos hk] at h)
        go_wp2_with fail
        go_roundw
        case rel => exact ⟨ia, n, l, rfl, rfl, hn, hia, Lib.hid ⟨HL.out, HN2.out, by have := HSS.out; omega, J1.out⟩⟩
        case measure => simp [intOf]; omega
      · have HN2 : Hid (n + (l.size + 1) + r.rank key = rv) := Lib.hid (by have h := HLK.out; rw [if_neg hk] at h; omega)
        have hk1 : k < key := by omega
        have hsl : (celAt zs ia).s = (l.size : Int) := HL.out.root.1
        have HC2 := Lib.hid (pmcell root ia (HI.out _ J1.out).2.1)
        have hnb : n + (l.size + 1) ≤ 1000000 := by have := HN2.out; omega
        generalize celAt zs ia = cx at hsl HC2
        obtain ⟨x1, x2, x3, x4, x5, x6⟩ := cx
        simp only at hsl
        subst hsl
        clear hk
        go_wp2_with fail
        refine HC2.out.mono ?_
        rintro e w2 ⟨rfl, hb⟩
        have J2 := Lib.hid (J1.out.trans (hb.mono J1.out.size))
        have hbx : w2.heap[w1.heap.size]? = some (boxC ⟨ia, ib, k, v, cs, ch⟩) := (hb.block _ (by simp)).trans (heap_alloc_at _ _ _ rfl)
        obtain ⟨hgx, c0, c1, c2, c3, c4, c5⟩ := cellsC hbx
        clear hb HC2 hbx m0 m1
        go_wp2_with fail
        go_roundw
        case rel => exact ⟨ib, n + (l.size + 1), r, rfl, by go_num, hnb, hib, Lib.hid ⟨HRR.out, HN2.out, by have := HSS.out; omega, J2.out⟩⟩
        case measure => simp [intOf]; omega
end Go.Proofs.Ytpmimngngehmlaa.F
