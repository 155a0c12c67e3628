/-
  Contract of sequences: At. Not a statement of the seat.
-/
import Derived.Test.YtpbkclciipmonaaPsEos
import Derived.Test.YtpbkclciipmonaaHead
namespace Go.Proofs.Ytpbkclciipmonaa.F
open Go.ChangeShapes Go.WideShapes Go.ChangeAt Go.RowKit Base
/-- What stands at a place. -/
def atV : Tre → Int → Int × Bool
  | .nil, _ => (0, false)
  | .node l _ v r, i => if i < (l.size : Int) then atV l i else if (l.size : Int) < i then atV r (i - ((l.size : Int) + 1)) else (v, true)
theorem atV_vals : ∀ (t : Tre) (i : Int), atV t i = if 0 ≤ i ∧ i < (t.size : Int) then (t.vals.getD i.toNat 0, true) else (0, false)
  | .nil, i => by
    rw [if_neg (by simp only [Tre.size]; omega)]; rfl
  | .node l k v r, i => by
    show (if i < (l.size : Int) then atV l i else if (l.size : Int) < i then atV r (i - ((l.size : Int) + 1)) else (v, true)) = if 0 ≤ i ∧ i < ((l.size + 1 + r.size : Nat) : Int) then ((l.vals ++ v :: r.vals).getD i.toNat 0, true) else (0, false)
    have hl := l.vals_len
    split
    · rename_i h1
      rw [atV_vals l i]
      by_cases h0 : 0 ≤ i
      · rw [if_pos ⟨h0, h1⟩, if_pos (by omega), List.getD_eq_getElem?_getD, List.getD_eq_getElem?_getD, List.getElem?_append_left (by omega)]
      · rw [if_neg (by omega), if_neg (by omega)]
    · rename_i h1
      split
      · rename_i h2
        rw [atV_vals r]
        by_cases h3 : i - ((l.size : Int) + 1) < (r.size : Int)
        · rw [if_pos (by omega), if_pos (by omega), List.getD_eq_getElem?_getD, List.getD_eq_getElem?_getD, List.getElem?_append_right (by omega), hl, show i.toNat - l.size = (i - ((l.size : Int) + 1)).toNat + 1 by omega, List.getElem?_cons_succ]
        · rw [if_neg (by omega), if_neg (by omega)]
      · rw [if_pos (by omega), List.getD_eq_getElem?_getD, List.getElem?_append_right (by omega), hl, show i.toNat - l.size = 0 by omega]
        rfl
set_option maxHeartbeats 8000000 in
set_option maxRecDepth 100000 in
theorem psat {pv : Value} {o : Option Nat} {room : Nat} {zs : List Cel} {w : World} {t : Tre} {root : Int} (key : Int) (h : ArV w pv o room zs) (ht : Tr zs t root) (hkb : -9223372036854775808 ≤ key ∧ key ≤ 9223372036854775807) : Calls Try.prog 35 #[.agg #[pv, .int .i64 root], .int .i64 key] w (IntBoolM (atV t key).1 (atV t key).2 w) := by
  obtain ⟨a, rfl⟩ := h.ptr
  have HI : Hid (∀ X, Below (w.alloc (boxS (.pointer a) root)).heap.size (w.alloc (boxS (.pointer a) root)) X → (X.cell? ⟨w.heap.size, 0, none⟩ = some (.pointer a) ∧ X.cell? ⟨w.heap.size, 1, none⟩ = some (.int .i64 root)) ∧ ArV X (.pointer a) o room zs ∧ w.heap.size < X.heap.size ∧ Below w.heap.size w X) := Lib.hid fun X hX => by
    have hb : Below w.heap.size w (w.alloc (boxS (.pointer a) root)) := (Below.refl _ _).alloc (Nat.le_refl _) _
    have hm := (hX.block w.heap.size (by simp)).trans (heap_alloc_at _ _ _ rfl)
    exact ⟨(cellsS hm).2, (h.below hb).below hX, heap_lt hm, hb.trans (hX.mono hb.size)⟩
  have HK := Lib.hid h.bk
  have HT := Lib.hid ht
  have hle := h.le
  clear h ht
  obtain ⟨rv, rb, hres⟩ : ∃ rv rb, atV t key = (rv, rb) := ⟨_, _, rfl⟩
  rw [hres]
  have HR := Lib.hid hres
  have HKB := Lib.hid hkb
  have hf := fld_s
  clear hres hkb
  go_enter Try.func35, Try.ntmps35
  go_wp2_with fail
  go_loopw [1, 6] (fun s1 s6 wr => ∃ (i : Int) (n : Int) (t' : Tre), s6 = .int .i64 i ∧ s1 = .int .i64 n ∧ (-9223372036854775808 ≤ n ∧ n ≤ 9223372036854775807) ∧ 0 ≤ i ∧ Hid (Tr zs t' i ∧ atV t' n = (rv, rb) ∧ Below (w.alloc (boxS (.pointer a) root)).heap.size (w.alloc (boxS (.pointer a) root)) wr)) (fun _ s6 _ => (intOf s6).toNat)
  case atStart => exact ⟨root, key, t, rfl, rfl, HKB.out, HT.out.le.1, Lib.hid ⟨HT.out, HR.out, Below.refl _ _⟩⟩
  case round =>
    obtain ⟨i, n, t', rfl, rfl, hn, hi0, J⟩ := hrel
    obtain ⟨⟨m0, m1⟩, hA, hwl, hBl⟩ := HI.out _ J.out.2.2
    have HA := Lib.hid hA
    have HBl := Lib.hid hBl
    clear hA hBl
    cases t' with
    | nil =>
      have hi : i = 0 := J.out.1
      have hr : (rv, rb) = (0, false) := J.out.2.1.symm
      injection hr with h1 h2
      subst hi h1 h2
      go_wp2_with fail
      go_ret2
      exact ⟨rfl, HBl.out⟩
    | node l k v r =>
      obtain ⟨hi, ia, ib, hcel, hl, hr⟩ := J.out.1
      have hdn := Tr.down HK.out hi hcel
      have hHC := pscell root i HA.out
      rw [hcel] at hHC
      have HC := Lib.hid hHC
      have hia := hl.le.1
      have hib := hr.le.1
      have HL := Lib.hid hl
      have HRR := Lib.hid hr
      have HLK := Lib.hid (show (if n < (l.size : Int) then atV l n else if (l.size : Int) < n then atV r (n - ((l.size : Int) + 1)) else (v, true)) = (rv, rb) from J.out.2.1)
      have hnz : (i == 0) = false := by rw [beq_eq_false_iff_ne]; omega
      generalize ((Tre.node l k v r).size : Int) = cs at HC
      generalize ((Tre.node l k v r).high : Int) = ch at HC
      clear hcel hl hr hHC
      go_wp2_with fail
      refine HC.out.mono ?_
      rintro e w1 ⟨rfl, hb⟩
      have J1 : Hid (Below (w.alloc (boxS (.pointer a) root)).heap.size (w.alloc (boxS (.pointer a) root)) (w1.alloc (boxC ⟨ia, ib, k, v, cs, ch⟩))) := Lib.hid ((J.out.2.2.trans (hb.mono J.out.2.2.size)).alloc (Nat.le_trans J.out.2.2.size hb.size) _)
      have J10 := Lib.hid (J.out.2.2.trans (hb.mono J.out.2.2.size))
      clear hb HC m0 m1 hwl
      obtain ⟨⟨m0, m1⟩, _, hwl, _⟩ := HI.out _ J10.out
      have hsl : (celAt zs ia).s = (l.size : Int) := HL.out.root.1
      have HC2 := Lib.hid (pscell root ia (HI.out _ J1.out).2.1)
      generalize celAt zs ia = cx at hsl HC2
      obtain ⟨x1, x2, x3, x4, x5, x6⟩ := cx
      simp only at hsl
      subst hsl
      go_wp2_with fail
      refine HC2.out.mono ?_
      rintro e w2 ⟨rfl, hb⟩
      have J2 := Lib.hid (J1.out.trans (hb.mono J1.out.size))
      have hbx : w2.heap[w1.heap.size]? = some (boxC ⟨ia, ib, k, v, cs, ch⟩) := (hb.block _ (by simp)).trans (heap_alloc_at _ _ _ rfl)
      obtain ⟨hgx, c0, c1, c2, c3, c4, c5⟩ := cellsC hbx
      clear hb HC2 hbx m0 m1
      by_cases k1 : n < (l.size : Int)
      · have HN2 : Hid (atV l n = (rv, rb)) := Lib.hid (by have h := HLK.out; rwa [if_pos k1] at h)
        go_wp2_with fail
        go_roundw
        case rel => exact ⟨ia, n, l, rfl, rfl, hn, hia, Lib.hid ⟨HL.out, HN2.out, J2.out⟩⟩
        case measure => simp [intOf]; omega
      · by_cases k2 : (l.size : Int) < n
        · have HN2 : Hid (atV r (n - ((l.size : Int) + 1)) = (rv, rb)) := Lib.hid (by have h := HLK.out; rwa [if_neg k1, if_pos k2] at h)
          go_wp2_with fail
          go_roundw
          case rel => exact ⟨ib, n - ((l.size : Int) + 1), r, rfl, rfl, by omega, hib, Lib.hid ⟨HRR.out, HN2.out, J2.out⟩⟩
          case measure => simp [intOf]; omega
        · have hn2 : (v, true) = (rv, rb) := by have h := HLK.out; rwa [if_neg k1, if_neg k2] at h
          injection hn2 with h1 h2
          subst h1 h2
          go_wp2_with fail
          go_ret2
          exact ⟨rfl, (HI.out _ J2.out).2.2.2⟩
end Go.Proofs.Ytpbkclciipmonaa.F
